import Derived.Test.YtjdanfhbccpnpaaBcIs
/- Trees in memory by their entries in a row: what holds whatever their shape. -/
namespace Go.Proofs.Ytjdanfhbccpnpaa
open Go.RowKit Go.Shelf Go.Maps

/-- One more storey. -/
def Tr.lift : {n : Nat} → Tr n → Tr (n + 1)
  | 0, _ => (none : Option (Nat × Nat × Int × Int × Tr 0 × Tr 0))
  | n + 1, t => match (t : Option (Nat × Nat × Int × Int × Tr n × Tr n)) with
    | none => (none : Option (Nat × Nat × Int × Int × Tr (n + 1) × Tr (n + 1)))
    | some (tb, eb, pl, h, l, r) => nodeT tb eb pl h l.lift r.lift
/-- The entries, in order: block and place. -/
def entsT : {n : Nat} → Tr n → List (Nat × Int)
  | 0, _ => []
  | n + 1, t => match (t : Option (Nat × Nat × Int × Int × Tr n × Tr n)) with
    | none => []
    | some (_, eb, pl, _, l, r) => entsT l ++ (eb, pl) :: entsT r
def htT : {n : Nat} → Tr n → Int
  | 0, _ => 0
  | n + 1, t => match (t : Option (Nat × Nat × Int × Int × Tr n × Tr n)) with
    | none => 0
    | some (_, _, _, h, _, _) => h
/-- Each height is what it says. -/
def HtOK : {n : Nat} → Tr n → Prop
  | 0, _ => True
  | n + 1, t => match (t : Option (Nat × Nat × Int × Int × Tr n × Tr n)) with
    | none => True
    | some (_, _, _, h, l, r) => h = max (htT l) (htT r) + 1 ∧ HtOK l ∧ HtOK r
theorem lift_is {W : World} : ∀ {n : Nat} {t : Tr n} {p : Option Addr}, TrIs W t p → TrIs W t.lift p := by
  intro n
  induction n with
  | zero => intro t p h; exact h
  | succ n ih =>
    intro t p h
    match t, h with
    | none, h => exact h
    | some (tb, eb, pl, ht, l, r), h =>
      obtain ⟨h1, lp, rp, h2, h3, h4, h5⟩ := h
      exact ⟨h1, lp, rp, h2, h3, ih h4, ih h5⟩
theorem lift_ents : ∀ {n : Nat} (t : Tr n), entsT t.lift = entsT t := by
  intro n
  induction n with
  | zero => intro t; rfl
  | succ n ih =>
    intro t
    match t with
    | none => rfl
    | some (tb, eb, pl, ht, l, r) =>
      show entsT l.lift ++ (eb, pl) :: entsT r.lift = entsT l ++ (eb, pl) :: entsT r
      rw [ih l, ih r]
theorem lift_ht : ∀ {n : Nat} (t : Tr n), htT t.lift = htT t := by
  intro n
  cases n with
  | zero => intro t; rfl
  | succ n =>
    intro t
    match t with
    | none => rfl
    | some (tb, eb, pl, ht, l, r) => rfl
theorem lift_htok : ∀ {n : Nat} {t : Tr n}, HtOK t → HtOK t.lift := by
  intro n
  induction n with
  | zero => intro t _; exact True.intro
  | succ n ih =>
    intro t h
    match t, h with
    | none, _ => exact True.intro
    | some (tb, eb, pl, ht, l, r), h =>
      obtain ⟨h1, h2, h3⟩ := h
      show ht = max (htT l.lift) (htT r.lift) + 1 ∧ HtOK l.lift ∧ HtOK r.lift
      rw [lift_ht, lift_ht]
      exact ⟨h1, ih h2, ih h3⟩
/-- A tree lies at a pointer: its entries, its height. -/
def TrL (W : World) (p : Option Addr) (L : List (Nat × Int)) (h : Int) : Prop := ∃ N, ∀ n, N ≤ n → ∃ t : Tr n, TrIs W t p ∧ HtOK t ∧ entsT t = L ∧ htT t = h
theorem trL_of {W : World} {p : Option Addr} {n : Nat} {t : Tr n} (h1 : TrIs W t p) (h2 : HtOK t) : TrL W p (entsT t) (htT t) := by
  refine ⟨n, fun m hm => ?_⟩
  obtain ⟨d, rfl⟩ : ∃ d, m = n + d := ⟨m - n, by omega⟩
  clear hm
  induction d with
  | zero => exact ⟨t, h1, h2, rfl, rfl⟩
  | succ d ih =>
    obtain ⟨t', k1, k2, k3, k4⟩ := ih
    exact ⟨t'.lift, lift_is k1, lift_htok k2, (lift_ents t').trans k3, (lift_ht t').trans k4⟩
theorem TrL.nil (W : World) : TrL W none [] 0 := trL_of (n := 0) (t := ()) rfl True.intro
theorem TrL.node {W : World} {lp rp : Option Addr} {Ll Lr : List (Nat × Int)} {hl hr : Int} (h1 : TrL W lp Ll hl) (h2 : TrL W rp Lr hr) {tb eb : Nat} {pl : Int} (hb : W.heap[tb]? = some (.cells #[.pointer (some ⟨eb, 0, none⟩), .pointer lp, .pointer rp, .int .i64 (max hl hr + 1)] 117 (0, 0))) (hc : W.cell? ⟨eb, 0, none⟩ = some (.int .i64 pl)) :
    TrL W (some ⟨tb, 0, none⟩) (Ll ++ (eb, pl) :: Lr) (max hl hr + 1) := by
  obtain ⟨N1, k1⟩ := h1
  obtain ⟨N2, k2⟩ := h2
  obtain ⟨t1, a1, a2, a3, a4⟩ := k1 (N1 + N2) (by omega)
  obtain ⟨t2, b1, b2, b3, b4⟩ := k2 (N1 + N2) (by omega)
  have h := trL_of (n := N1 + N2 + 1) (t := nodeT tb eb pl (max hl hr + 1) t1 t2) (W := W) (p := some ⟨tb, 0, none⟩) ⟨rfl, lp, rp, hb, hc, a1, b1⟩ ⟨by rw [a4, b4], a2, b2⟩
  have e : entsT (nodeT tb eb pl (max hl hr + 1) t1 t2) = Ll ++ (eb, pl) :: Lr := by
    show entsT t1 ++ (eb, pl) :: entsT t2 = _
    rw [a3, b3]
  rw [e] at h
  exact h
/-- A tree is none, or a node and two trees. -/
theorem TrL.cases {W : World} {p : Option Addr} {L : List (Nat × Int)} {h : Int} (ht : TrL W p L h) : (p = none ∧ L = [] ∧ h = 0) ∨ ∃ (tb eb : Nat) (pl : Int) (lp rp : Option Addr) (Ll Lr : List (Nat × Int)) (hl hr : Int), p = some ⟨tb, 0, none⟩ ∧ W.heap[tb]? = some (.cells #[.pointer (some ⟨eb, 0, none⟩), .pointer lp, .pointer rp, .int .i64 h] 117 (0, 0)) ∧ W.cell? ⟨eb, 0, none⟩ = some (.int .i64 pl) ∧ TrL W lp Ll hl ∧ TrL W rp Lr hr ∧ L = Ll ++ (eb, pl) :: Lr ∧ h = max hl hr + 1 := by
  obtain ⟨N, k⟩ := ht
  obtain ⟨t, h1, h2, h3, h4⟩ := k (N + 1) (by omega)
  match t, h1, h2, h3, h4 with
  | none, h1, _, h3, h4 => exact .inl ⟨h1, h3.symm, h4.symm⟩
  | some (tb, eb, pl, ht, l, r), h1, h2, h3, h4 =>
    obtain ⟨rfl, lp, rp, hb, hc, hl, hr⟩ := h1
    obtain ⟨e1, e2, e3⟩ := h2
    have h4' : ht = h := h4
    subst h4'
    exact .inr ⟨tb, eb, pl, lp, rp, entsT l, entsT r, htT l, htT r, rfl, hb, hc, trL_of hl e2, trL_of hr e3, h3.symm, e1⟩
theorem TrL.below {A B : World} (hb : Below A.heap.size A B) {p : Option Addr} {L : List (Nat × Int)} {h : Int} (ht : TrL A p L h) : TrL B p L h := by
  obtain ⟨N, k⟩ := ht
  exact ⟨N, fun n hn => by obtain ⟨t, h1, h2⟩ := k n hn; exact ⟨t, h1.below hb, h2⟩⟩
theorem len_cons (Ll Lr : List (Nat × Int)) (x : Nat × Int) : (Ll ++ x :: Lr).length = Ll.length + Lr.length + 1 := by simp; omega
/-- By the number of entries. -/
theorem TrL.ind {W : World} {P : Option Addr → List (Nat × Int) → Int → Prop} (hnil : P none [] 0)
    (hnode : ∀ (tb eb : Nat) (pl : Int) (lp rp : Option Addr) (Ll Lr : List (Nat × Int)) (hl hr : Int), W.heap[tb]? = some (.cells #[.pointer (some ⟨eb, 0, none⟩), .pointer lp, .pointer rp, .int .i64 (max hl hr + 1)] 117 (0, 0)) → W.cell? ⟨eb, 0, none⟩ = some (.int .i64 pl) → TrL W lp Ll hl → TrL W rp Lr hr → P lp Ll hl → P rp Lr hr → P (some ⟨tb, 0, none⟩) (Ll ++ (eb, pl) :: Lr) (max hl hr + 1)) :
    ∀ {p : Option Addr} {L : List (Nat × Int)} {h : Int}, TrL W p L h → P p L h := by
  have key : ∀ (n : Nat) {p : Option Addr} {L : List (Nat × Int)} {h : Int}, L.length ≤ n → TrL W p L h → P p L h := by
    intro n
    induction n with
    | zero =>
      intro p L h hn ht
      rcases ht.cases with ⟨rfl, rfl, rfl⟩ | ⟨tb, eb, pl, lp, rp, Ll, Lr, hl, hr, _, _, _, _, _, rfl, _⟩
      · exact hnil
      · rw [len_cons] at hn; omega
    | succ n ih =>
      intro p L h hn ht
      rcases ht.cases with ⟨rfl, rfl, rfl⟩ | ⟨tb, eb, pl, lp, rp, Ll, Lr, hl, hr, rfl, hb, hc, h1, h2, rfl, rfl⟩
      · exact hnil
      · rw [len_cons] at hn
        exact hnode tb eb pl lp rp Ll Lr hl hr hb hc h1 h2 (ih (by omega) h1) (ih (by omega) h2)
  intro p L h ht
  exact key L.length (Nat.le_refl _) ht
theorem TrL.ht {W : World} : ∀ {p : Option Addr} {L : List (Nat × Int)} {h : Int}, TrL W p L h → 0 ≤ h ∧ h ≤ L.length ∧ (h = 0 ↔ p = none) := by
  intro p L h ht
  refine TrL.ind (P := fun p L h => 0 ≤ h ∧ h ≤ L.length ∧ (h = 0 ↔ p = none)) ⟨by omega, by simp, by simp⟩ ?_ ht
  intro tb eb pl lp rp Ll Lr hl hr _ _ _ _ h1 h2
  rw [len_cons]
  refine ⟨by omega, by omega, ?_⟩
  constructor
  · intro h; omega
  · intro h; cases h
theorem TrL.tall {W : World} {p : Option Addr} {L : List (Nat × Int)} {h : Int} (ht : TrL W p L h) : Tall W p h := by
  rcases ht.cases with ⟨rfl, rfl, rfl⟩ | ⟨tb, eb, pl, lp, rp, Ll, Lr, hl, hr, rfl, hb, hc, h1, h2, rfl, rfl⟩
  · exact .inl ⟨rfl, rfl⟩
  · exact .inr ⟨tb, rfl, by simp [World.cell?, hb]⟩
/-- base.grown makes a tree of two and an entry. -/
theorem grownL {W : World} {lp rp : Option Addr} {Ll Lr : List (Nat × Int)} {hl hr : Int} (h1 : TrL W lp Ll hl) (h2 : TrL W rp Lr hr) (eb : Nat) (pl : Int) (hc : W.cell? ⟨eb, 0, none⟩ = some (.int .i64 pl)) (hn : Ll.length + Lr.length < 4611686018427387904) :
    Calls Try.prog 50 #[.pointer lp, .pointer (some ⟨eb, 0, none⟩), .pointer rp] W fun e W' => ∃ q h, e = .returned (.pointer (some ⟨q, 0, none⟩)) ∧ W.heap.size ≤ q ∧ Below W.heap.size W W' ∧ TrL W' (some ⟨q, 0, none⟩) (Ll ++ (eb, pl) :: Lr) h := by
  have k1 := h1.ht
  have k2 := h2.ht
  refine (grown_any lp (some ⟨eb, 0, none⟩) rp hl hr W h1.tall h2.tall (by omega) (by omega)).mono ?_
  rintro e W' ⟨rfl, rfl⟩
  have hb : Below W.heap.size W (W.alloc (.cells #[.pointer (some ⟨eb, 0, none⟩), .pointer lp, .pointer rp, .int .i64 (max hl hr + 1)] 117)) := (Below.refl _ W).alloc (Nat.le_refl _) _
  have hel : eb < W.heap.size := by
    by_cases h : eb < W.heap.size
    · exact h
    · have : W.heap[eb]? = none := Array.getElem?_eq_none (by omega)
      simp [World.cell?, this] at hc
  exact ⟨W.heap.size, _, rfl, Nat.le_refl _, hb, (h1.below hb).node (h2.below hb) (World.alloc_heap_new W _) ((hb.cell (p := ⟨eb, 0, none⟩) hel).trans hc)⟩
end Go.Proofs.Ytjdanfhbccpnpaa

/- base.leaningLeft, leaningRight, balanced. (Written by wip/treegen.py.) -/
namespace Go.Proofs.Ytjdanfhbccpnpaa
open Go.RowKit Go.Shelf Go.Maps

/-- What makes a tree of these entries answers. -/
def TreeC (W : World) (f : Nat) (args : Array Value) (L : List (Nat × Int)) : Prop := Calls Try.prog f args W fun e W' => ∃ q h, e = .returned (.pointer (some ⟨q, 0, none⟩)) ∧ W.heap.size ≤ q ∧ Below W.heap.size W W' ∧ TrL W' (some ⟨q, 0, none⟩) L h
theorem grownC {W : World} {lp rp : Option Addr} {Ll Lr : List (Nat × Int)} {hl hr : Int} (h1 : TrL W lp Ll hl) (h2 : TrL W rp Lr hr) (eb : Nat) (pl : Int) (hc : W.cell? ⟨eb, 0, none⟩ = some (.int .i64 pl)) (hn : Ll.length + Lr.length < 4611686018427387904) : TreeC W 50 #[.pointer lp, .pointer (some ⟨eb, 0, none⟩), .pointer rp] (Ll ++ (eb, pl) :: Lr) := grownL h1 h2 eb pl hc hn
theorem cell_in {W : World} {b o : Nat} {v : Value} (h : W.cell? ⟨b, o, none⟩ = some v) : b < W.heap.size := by
  by_cases hb : b < W.heap.size
  · exact hb
  · have : W.heap[b]? = none := Array.getElem?_eq_none (by omega)
    simp [World.cell?, this] at h
theorem node_cells {W : World} {tb eb : Nat} {lp rp : Option Addr} {h : Int} (hb : W.heap[tb]? = some (.cells #[.pointer (some ⟨eb, 0, none⟩), .pointer lp, .pointer rp, .int .i64 h] 117 (0, 0))) : W.cell? ⟨tb, 0, none⟩ = some (.pointer (some ⟨eb, 0, none⟩)) ∧ W.cell? ⟨tb, 1, none⟩ = some (.pointer lp) ∧ W.cell? ⟨tb, 2, none⟩ = some (.pointer rp) ∧ W.cell? ⟨tb, 3, none⟩ = some (.int .i64 h) := by
  refine ⟨?_, ?_, ?_, ?_⟩ <;> simp [World.cell?, hb]
set_option maxRecDepth 100000 in
set_option maxHeartbeats 4000000 in
theorem leaningLeft_a {W : World} {tb xb eb : Nat} {xl pl ht : Int} {lp rp op : Option Addr} {Ll Lr Lo : List (Nat × Int)} {hl hr ho : Int} (hb : W.heap[tb]? = some (.cells #[.pointer (some ⟨xb, 0, none⟩), .pointer lp, .pointer rp, .int .i64 ht] 117 (0, 0))) (hx : W.cell? ⟨xb, 0, none⟩ = some (.int .i64 xl)) (he : W.cell? ⟨eb, 0, none⟩ = some (.int .i64 pl)) (h1 : TrL W lp Ll hl) (h2 : TrL W rp Lr hr) (h3 : TrL W op Lo ho) (hn : Ll.length + Lr.length + Lo.length < 4611686018427387900) (hc : hr ≤ hl) :
    TreeC W 58 #[.pointer (some ⟨tb, 0, none⟩), .pointer (some ⟨eb, 0, none⟩), .pointer op] ((Ll ++ (xb, xl) :: Lr) ++ (eb, pl) :: Lo) := by
  unfold TreeC
  have htl := cell_in (node_cells hb).1
  have hxl := cell_in hx
  have hel := cell_in he
  have GW : Hid (Below W.heap.size W W) := Below.refl _ _
  have HX : Hid (∀ V, Below W.heap.size W V → V.cell? ⟨xb, 0, none⟩ = some (.int .i64 xl) ∧ V.cell? ⟨eb, 0, none⟩ = some (.int .i64 pl) ∧ TrL V lp Ll hl ∧ TrL V rp Lr hr ∧ TrL V op Lo ho) := fun V hV => ⟨(hV.cell (p := ⟨xb, 0, none⟩) hxl).trans hx, (hV.cell (p := ⟨eb, 0, none⟩) hel).trans he, h1.below hV, h2.below hV, h3.below hV⟩
  obtain ⟨n0, n1, n2, n3⟩ := node_cells hb
  have HT : Hid (∀ V, Below W.heap.size W V → Calls Try.prog 57 #[.pointer lp] V fun e V' => e = .returned (.int .i64 hl) ∧ V' = V) := fun V hV => tall_any (h1.below hV).tall
  have HT2 : Hid (∀ V, Below W.heap.size W V → Calls Try.prog 57 #[.pointer rp] V fun e V' => e = .returned (.int .i64 hr) ∧ V' = V) := fun V hV => tall_any (h2.below hV).tall
  clear hb hx he h1 h2 h3 n3
  go_enter Try.func58, Try.ntmps58
  go_wp2_with fail
  have KEEP : W.cell? ⟨tb, 0, none⟩ = some (.pointer (some ⟨xb, 0, none⟩)) ∧ W.cell? ⟨tb, 1, none⟩ = some (.pointer lp) ∧ W.cell? ⟨tb, 2, none⟩ = some (.pointer rp) := ⟨n0, n1, n2⟩
  refine wp_region_noPanic ?_
  refine wp_region_held_drew (S := (fun w' => w'.cell? ⟨tb, 0, none⟩ = some (.pointer (some ⟨xb, 0, none⟩)) ∧ w'.cell? ⟨tb, 1, none⟩ = some (.pointer lp) ∧ w'.cell? ⟨tb, 2, none⟩ = some (.pointer rp))) (by kernel_rfl) ?_ (fun hHeld => ?_)
  · exact KEEP
  refine wpAnyH_take (i := 0) (oi := { dst := some 8, op := Op.move (Operand.tmp 0), type := 95, pos := "tree.go:73", after := #[], guard := none }) (v := ?_) rfl (by kernel_rfl) (by kernel_rfl) (by kernel_rfl) (fun _ _ _ h => h) (Or.inl ⟨by rfl, ?_⟩) hHeld ?_
  rotate_left
  · (intro w' hSw; (try dsimp only at hSw); go_simp; try with_reducible rfl)
  try simp only [Act.put, List.setIfInBounds_toArray, List.set_cons_zero, List.set_cons_succ]
  refine wpAnyH_take (i := 1) (oi := { dst := some 9, op := Op.nilCheck (Operand.tmp 8), type := 0, pos := "tree.go:73", after := #[{ on := 0, ground := Ground.data }], guard := none }) (v := ?_) rfl (by kernel_rfl) (by kernel_rfl) (by kernel_rfl) (fun _ _ _ h => h) (Or.inl ⟨by rfl, ?_⟩) hHeld ?_
  rotate_left
  · (intro w' hSw; (try dsimp only at hSw); go_simp; try with_reducible rfl)
  try simp only [Act.put, List.setIfInBounds_toArray, List.set_cons_zero, List.set_cons_succ]
  refine wpAnyH_take (i := 2) (oi := { dst := some 10, op := Op.fieldAddr 117 (Operand.tmp 9) 1, type := 0, pos := "tree.go:73", after := #[{ on := 1, ground := Ground.data }], guard := none }) (v := ?_) rfl (by kernel_rfl) (by kernel_rfl) (by kernel_rfl) (fun _ _ _ h => h) (Or.inl ⟨by rfl, ?_⟩) hHeld ?_
  rotate_left
  · (intro w' hSw; (try dsimp only at hSw); go_simp; try with_reducible rfl)
  try simp only [Act.put, List.setIfInBounds_toArray, List.set_cons_zero, List.set_cons_succ]
  refine wpAnyH_take (i := 3) (oi := { dst := some 11, op := Op.load 95 (Operand.tmp 10), type := 95, pos := "tree.go:73", after := #[{ on := 2, ground := Ground.data }], guard := none }) (v := ?_) rfl (by kernel_rfl) (by kernel_rfl) (by kernel_rfl) (fun _ _ _ h => h) (Or.inl ⟨by rfl, ?_⟩) hHeld ?_
  rotate_left
  · (intro w' hSw; (try dsimp only at hSw); go_simp; try with_reducible rfl)
  try simp only [Act.put, List.setIfInBounds_toArray, List.set_cons_zero, List.set_cons_succ]
  refine wpAnyH_take (i := 5) (oi := { dst := some 13, op := Op.move (Operand.tmp 0), type := 95, pos := "tree.go:73", after := #[], guard := none }) (v := ?_) rfl (by kernel_rfl) (by kernel_rfl) (by kernel_rfl) (fun _ _ _ h => h) (Or.inl ⟨by rfl, ?_⟩) hHeld ?_
  rotate_left
  · (intro w' hSw; (try dsimp only at hSw); go_simp; try with_reducible rfl)
  try simp only [Act.put, List.setIfInBounds_toArray, List.set_cons_zero, List.set_cons_succ]
  refine wpAnyH_take (i := 6) (oi := { dst := some 14, op := Op.nilCheck (Operand.tmp 13), type := 0, pos := "tree.go:73", after := #[{ on := 5, ground := Ground.data }], guard := none }) (v := ?_) rfl (by kernel_rfl) (by kernel_rfl) (by kernel_rfl) (fun _ _ _ h => h) (Or.inl ⟨by rfl, ?_⟩) hHeld ?_
  rotate_left
  · (intro w' hSw; (try dsimp only at hSw); go_simp; try with_reducible rfl)
  try simp only [Act.put, List.setIfInBounds_toArray, List.set_cons_zero, List.set_cons_succ]
  refine wpAnyH_take (i := 7) (oi := { dst := some 15, op := Op.fieldAddr 117 (Operand.tmp 14) 2, type := 0, pos := "tree.go:73", after := #[{ on := 6, ground := Ground.data }], guard := none }) (v := ?_) rfl (by kernel_rfl) (by kernel_rfl) (by kernel_rfl) (fun _ _ _ h => h) (Or.inl ⟨by rfl, ?_⟩) hHeld ?_
  rotate_left
  · (intro w' hSw; (try dsimp only at hSw); go_simp; try with_reducible rfl)
  try simp only [Act.put, List.setIfInBounds_toArray, List.set_cons_zero, List.set_cons_succ]
  refine wpAnyH_take (i := 8) (oi := { dst := some 16, op := Op.load 95 (Operand.tmp 15), type := 95, pos := "tree.go:73", after := #[{ on := 7, ground := Ground.data }], guard := none }) (v := ?_) rfl (by kernel_rfl) (by kernel_rfl) (by kernel_rfl) (fun _ _ _ h => h) (Or.inl ⟨by rfl, ?_⟩) hHeld ?_
  rotate_left
  · (intro w' hSw; (try dsimp only at hSw); go_simp; try with_reducible rfl)
  try simp only [Act.put, List.setIfInBounds_toArray, List.set_cons_zero, List.set_cons_succ]
  refine wpAnyH_ready (rs := [4]) (by kernel_rfl) (by simp) ?_
  refine AllReadyH.cons (o := { dst := some 12, op := Op.call { callee := Callee.value (Operand.func 57), args := #[Operand.tmp 11], argTypes := #[95] }, type := 3, pos := "tree.go:73", after := #[{ on := 3, ground := Ground.data }], guard := none }) rfl (fun K hK => ?_) AllReadyH.nil
  have hHold := hHeld
  clear hHeld
  go_simp
  refine (HT.out W.drew (unhide GW).drew).mono ?_
  rintro e V1 ⟨rfl, rfl⟩
  go_wp2_with fail
  refine hK.out _ _ ?_ (fun hHeld => ?_)
  · ((try dsimp only); exact KEEP)
  clear hK K hHold
  try simp only [Act.put, List.setIfInBounds_toArray, List.set_cons_zero, List.set_cons_succ]
  refine wpAnyH_ready (rs := [9]) (by kernel_rfl) (by simp) ?_
  refine AllReadyH.cons (o := { dst := some 17, op := Op.call { callee := Callee.value (Operand.func 57), args := #[Operand.tmp 16], argTypes := #[95] }, type := 3, pos := "tree.go:73", after := #[{ on := 8, ground := Ground.data }, { on := 4, ground := Ground.chain }], guard := none }) rfl (fun K hK => ?_) AllReadyH.nil
  have hHold := hHeld
  clear hHeld
  go_simp
  refine (HT2.out W.drew (unhide GW).drew).mono ?_
  rintro e V1 ⟨rfl, rfl⟩
  go_wp2_with fail
  refine hK.out _ _ ?_ (fun hHeld => ?_)
  · ((try dsimp only); exact KEEP)
  clear hK K hHold
  try simp only [Act.put, List.setIfInBounds_toArray, List.set_cons_zero, List.set_cons_succ]
  refine wpAnyH_take (i := 10) (oi := { dst := some 18, op := Op.binOp BinOp.geq 3 (Operand.tmp 12) (Operand.tmp 17) 3, type := 4, pos := "tree.go:73", after := #[{ on := 4, ground := Ground.data }, { on := 9, ground := Ground.data }], guard := none }) (v := ?_) rfl (by kernel_rfl) (by kernel_rfl) (by kernel_rfl) (fun _ _ _ h => h) (Or.inl ⟨by rfl, ?_⟩) hHeld ?_
  rotate_left
  · (intro w' hSw; (try dsimp only at hSw); go_simp; try with_reducible rfl)
  try simp only [Act.put, List.setIfInBounds_toArray, List.set_cons_zero, List.set_cons_succ]
  refine wpAnyH_done (by kernel_rfl) ?_ _
  refine NoPanic.normal ?_
  clear hHeld KEEP HT HT2
  have WD : Hid (Below W.heap.size W W.drew) := (Below.refl _ W).drew
  obtain ⟨V0, hV0⟩ : ∃ V0, W.drew = V0 := ⟨_, rfl⟩
  have s0 : V0.heap.size = W.heap.size := by rw [← hV0]; rfl
  rw [hV0] at WD
  have GV0 : Hid (Below W.heap.size W V0) := WD.out
  rw [hV0]
  clear WD
  have m0 : V0.cell? ⟨tb, 0, none⟩ = some (.pointer (some ⟨xb, 0, none⟩)) := ((unhide GV0).cell (p := ⟨tb, 0, none⟩) htl).trans n0
  have m1 : V0.cell? ⟨tb, 1, none⟩ = some (.pointer lp) := ((unhide GV0).cell (p := ⟨tb, 1, none⟩) htl).trans n1
  have m2 : V0.cell? ⟨tb, 2, none⟩ = some (.pointer rp) := ((unhide GV0).cell (p := ⟨tb, 2, none⟩) htl).trans n2
  clear n0 n1 n2 hV0
  replace htl : tb < V0.heap.size := by omega
  have hge : hl ≥ hr := hc
  clear hc
  go_wp2_with fail
  have KEEP : V0.cell? ⟨tb, 0, none⟩ = some (.pointer (some ⟨xb, 0, none⟩)) ∧ V0.cell? ⟨tb, 1, none⟩ = some (.pointer lp) ∧ V0.cell? ⟨tb, 2, none⟩ = some (.pointer rp) := ⟨m0, m1, m2⟩
  refine wp_region_noPanic ?_
  refine wp_region_held_drew (S := (fun w' => w'.cell? ⟨tb, 0, none⟩ = some (.pointer (some ⟨xb, 0, none⟩)) ∧ w'.cell? ⟨tb, 1, none⟩ = some (.pointer lp) ∧ w'.cell? ⟨tb, 2, none⟩ = some (.pointer rp))) (by kernel_rfl) ?_ (fun hHeld => ?_)
  · exact KEEP
  refine wpAnyH_take (i := 0) (oi := { dst := some 19, op := Op.move (Operand.tmp 0), type := 95, pos := "tree.go:74", after := #[], guard := none }) (v := ?_) rfl (by kernel_rfl) (by kernel_rfl) (by kernel_rfl) (fun _ _ _ h => h) (Or.inl ⟨by rfl, ?_⟩) hHeld ?_
  rotate_left
  · (intro w' hSw; (try dsimp only at hSw); go_simp; try with_reducible rfl)
  try simp only [Act.put, List.setIfInBounds_toArray, List.set_cons_zero, List.set_cons_succ]
  refine wpAnyH_take (i := 1) (oi := { dst := some 20, op := Op.nilCheck (Operand.tmp 19), type := 0, pos := "tree.go:74", after := #[{ on := 0, ground := Ground.data }], guard := none }) (v := ?_) rfl (by kernel_rfl) (by kernel_rfl) (by kernel_rfl) (fun _ _ _ h => h) (Or.inl ⟨by rfl, ?_⟩) hHeld ?_
  rotate_left
  · (intro w' hSw; (try dsimp only at hSw); go_simp; try with_reducible rfl)
  try simp only [Act.put, List.setIfInBounds_toArray, List.set_cons_zero, List.set_cons_succ]
  refine wpAnyH_take (i := 2) (oi := { dst := some 21, op := Op.fieldAddr 117 (Operand.tmp 20) 1, type := 0, pos := "tree.go:74", after := #[{ on := 1, ground := Ground.data }], guard := none }) (v := ?_) rfl (by kernel_rfl) (by kernel_rfl) (by kernel_rfl) (fun _ _ _ h => h) (Or.inl ⟨by rfl, ?_⟩) hHeld ?_
  rotate_left
  · (intro w' hSw; (try dsimp only at hSw); go_simp; try with_reducible rfl)
  try simp only [Act.put, List.setIfInBounds_toArray, List.set_cons_zero, List.set_cons_succ]
  refine wpAnyH_take (i := 3) (oi := { dst := some 22, op := Op.load 95 (Operand.tmp 21), type := 95, pos := "tree.go:74", after := #[{ on := 2, ground := Ground.data }], guard := none }) (v := ?_) rfl (by kernel_rfl) (by kernel_rfl) (by kernel_rfl) (fun _ _ _ h => h) (Or.inl ⟨by rfl, ?_⟩) hHeld ?_
  rotate_left
  · (intro w' hSw; (try dsimp only at hSw); go_simp; try with_reducible rfl)
  try simp only [Act.put, List.setIfInBounds_toArray, List.set_cons_zero, List.set_cons_succ]
  refine wpAnyH_take (i := 4) (oi := { dst := some 23, op := Op.move (Operand.tmp 0), type := 95, pos := "tree.go:74", after := #[], guard := none }) (v := ?_) rfl (by kernel_rfl) (by kernel_rfl) (by kernel_rfl) (fun _ _ _ h => h) (Or.inl ⟨by rfl, ?_⟩) hHeld ?_
  rotate_left
  · (intro w' hSw; (try dsimp only at hSw); go_simp; try with_reducible rfl)
  try simp only [Act.put, List.setIfInBounds_toArray, List.set_cons_zero, List.set_cons_succ]
  refine wpAnyH_take (i := 5) (oi := { dst := some 24, op := Op.nilCheck (Operand.tmp 23), type := 0, pos := "tree.go:74", after := #[{ on := 4, ground := Ground.data }], guard := none }) (v := ?_) rfl (by kernel_rfl) (by kernel_rfl) (by kernel_rfl) (fun _ _ _ h => h) (Or.inl ⟨by rfl, ?_⟩) hHeld ?_
  rotate_left
  · (intro w' hSw; (try dsimp only at hSw); go_simp; try with_reducible rfl)
  try simp only [Act.put, List.setIfInBounds_toArray, List.set_cons_zero, List.set_cons_succ]
  refine wpAnyH_take (i := 6) (oi := { dst := some 25, op := Op.fieldAddr 117 (Operand.tmp 24) 0, type := 0, pos := "tree.go:74", after := #[{ on := 5, ground := Ground.data }], guard := none }) (v := ?_) rfl (by kernel_rfl) (by kernel_rfl) (by kernel_rfl) (fun _ _ _ h => h) (Or.inl ⟨by rfl, ?_⟩) hHeld ?_
  rotate_left
  · (intro w' hSw; (try dsimp only at hSw); go_simp; try with_reducible rfl)
  try simp only [Act.put, List.setIfInBounds_toArray, List.set_cons_zero, List.set_cons_succ]
  refine wpAnyH_take (i := 7) (oi := { dst := some 26, op := Op.load 61 (Operand.tmp 25), type := 61, pos := "tree.go:74", after := #[{ on := 6, ground := Ground.data }], guard := none }) (v := ?_) rfl (by kernel_rfl) (by kernel_rfl) (by kernel_rfl) (fun _ _ _ h => h) (Or.inl ⟨by rfl, ?_⟩) hHeld ?_
  rotate_left
  · (intro w' hSw; (try dsimp only at hSw); go_simp; try with_reducible rfl)
  try simp only [Act.put, List.setIfInBounds_toArray, List.set_cons_zero, List.set_cons_succ]
  refine wpAnyH_take (i := 8) (oi := { dst := some 27, op := Op.move (Operand.tmp 0), type := 95, pos := "tree.go:74", after := #[], guard := none }) (v := ?_) rfl (by kernel_rfl) (by kernel_rfl) (by kernel_rfl) (fun _ _ _ h => h) (Or.inl ⟨by rfl, ?_⟩) hHeld ?_
  rotate_left
  · (intro w' hSw; (try dsimp only at hSw); go_simp; try with_reducible rfl)
  try simp only [Act.put, List.setIfInBounds_toArray, List.set_cons_zero, List.set_cons_succ]
  refine wpAnyH_take (i := 9) (oi := { dst := some 28, op := Op.nilCheck (Operand.tmp 27), type := 0, pos := "tree.go:74", after := #[{ on := 8, ground := Ground.data }], guard := none }) (v := ?_) rfl (by kernel_rfl) (by kernel_rfl) (by kernel_rfl) (fun _ _ _ h => h) (Or.inl ⟨by rfl, ?_⟩) hHeld ?_
  rotate_left
  · (intro w' hSw; (try dsimp only at hSw); go_simp; try with_reducible rfl)
  try simp only [Act.put, List.setIfInBounds_toArray, List.set_cons_zero, List.set_cons_succ]
  refine wpAnyH_take (i := 10) (oi := { dst := some 29, op := Op.fieldAddr 117 (Operand.tmp 28) 2, type := 0, pos := "tree.go:74", after := #[{ on := 9, ground := Ground.data }], guard := none }) (v := ?_) rfl (by kernel_rfl) (by kernel_rfl) (by kernel_rfl) (fun _ _ _ h => h) (Or.inl ⟨by rfl, ?_⟩) hHeld ?_
  rotate_left
  · (intro w' hSw; (try dsimp only at hSw); go_simp; try with_reducible rfl)
  try simp only [Act.put, List.setIfInBounds_toArray, List.set_cons_zero, List.set_cons_succ]
  refine wpAnyH_take (i := 11) (oi := { dst := some 30, op := Op.load 95 (Operand.tmp 29), type := 95, pos := "tree.go:74", after := #[{ on := 10, ground := Ground.data }], guard := none }) (v := ?_) rfl (by kernel_rfl) (by kernel_rfl) (by kernel_rfl) (fun _ _ _ h => h) (Or.inl ⟨by rfl, ?_⟩) hHeld ?_
  rotate_left
  · (intro w' hSw; (try dsimp only at hSw); go_simp; try with_reducible rfl)
  try simp only [Act.put, List.setIfInBounds_toArray, List.set_cons_zero, List.set_cons_succ]
  refine wpAnyH_take (i := 12) (oi := { dst := some 31, op := Op.move (Operand.tmp 1), type := 61, pos := "tree.go:74", after := #[], guard := none }) (v := ?_) rfl (by kernel_rfl) (by kernel_rfl) (by kernel_rfl) (fun _ _ _ h => h) (Or.inl ⟨by rfl, ?_⟩) hHeld ?_
  rotate_left
  · (intro w' hSw; (try dsimp only at hSw); go_simp; try with_reducible rfl)
  try simp only [Act.put, List.setIfInBounds_toArray, List.set_cons_zero, List.set_cons_succ]
  refine wpAnyH_take (i := 13) (oi := { dst := some 32, op := Op.move (Operand.tmp 2), type := 95, pos := "tree.go:74", after := #[], guard := none }) (v := ?_) rfl (by kernel_rfl) (by kernel_rfl) (by kernel_rfl) (fun _ _ _ h => h) (Or.inl ⟨by rfl, ?_⟩) hHeld ?_
  rotate_left
  · (intro w' hSw; (try dsimp only at hSw); go_simp; try with_reducible rfl)
  try simp only [Act.put, List.setIfInBounds_toArray, List.set_cons_zero, List.set_cons_succ]
  refine wpAnyH_ready (rs := [14]) (by kernel_rfl) (by simp) ?_
  refine AllReadyH.cons (o := { dst := some 33, op := Op.call { callee := Callee.value (Operand.func 50), args := #[Operand.tmp 30, Operand.tmp 31, Operand.tmp 32], argTypes := #[95, 61, 95] }, type := 95, pos := "tree.go:74", after := #[{ on := 11, ground := Ground.data }, { on := 12, ground := Ground.data }, { on := 13, ground := Ground.data }], guard := none }) rfl (fun K hK => ?_) AllReadyH.nil
  have hHold := hHeld
  clear hHeld
  go_simp
  have hcl := grownC (HX.out V0.drew (unhide GV0).drew).2.2.2.1 (HX.out V0.drew (unhide GV0).drew).2.2.2.2 eb pl (HX.out V0.drew (unhide GV0).drew).2.1 (by omega)
  refine hcl.mono ?_
  clear hcl
  rintro e V1 ⟨q1, i1, rfl, hq1, gV1, t1⟩
  have sV1 : V0.heap.size ≤ V1.heap.size := gV1.size
  have GV1 : Hid (Below W.heap.size W V1) := (unhide GV0).drew.trans (gV1.mono (by have := (unhide GV0).size; show W.heap.size ≤ V0.heap.size; omega))
  have kc : ∀ k o, k < V0.heap.size → V1.cell? ⟨k, o, none⟩ = V0.cell? ⟨k, o, none⟩ := fun k o hk => World.cell?_of_block (a := ⟨k, o, none⟩) (w := V0) (gV1.block k hk)
  have KEEP : V1.cell? ⟨tb, 0, none⟩ = some (.pointer (some ⟨xb, 0, none⟩)) ∧ V1.cell? ⟨tb, 1, none⟩ = some (.pointer lp) ∧ V1.cell? ⟨tb, 2, none⟩ = some (.pointer rp) := ⟨(kc _ _ htl).trans KEEP.1, (kc _ _ htl).trans KEEP.2.1, (kc _ _ htl).trans KEEP.2.2⟩
  have htl : tb < V1.heap.size := Nat.lt_of_lt_of_le htl sV1
  clear kc
  go_wp2_with fail
  refine hK.out _ _ ?_ (fun hHeld => ?_)
  · ((try dsimp only); exact KEEP)
  clear hK K hHold
  try simp only [Act.put, List.setIfInBounds_toArray, List.set_cons_zero, List.set_cons_succ]
  refine wpAnyH_ready (rs := [15]) (by kernel_rfl) (by simp) ?_
  refine AllReadyH.cons (o := { dst := some 34, op := Op.call { callee := Callee.value (Operand.func 50), args := #[Operand.tmp 22, Operand.tmp 26, Operand.tmp 33], argTypes := #[95, 61, 95] }, type := 95, pos := "tree.go:74", after := #[{ on := 3, ground := Ground.data }, { on := 7, ground := Ground.data }, { on := 14, ground := Ground.data }, { on := 14, ground := Ground.chain }], guard := none }) rfl (fun K hK => ?_) AllReadyH.nil
  have hHold := hHeld
  clear hHeld
  go_simp
  have hcl := grownC (HX.out V1 (unhide GV1)).2.2.1 t1 xb xl (HX.out V1 (unhide GV1)).1 (by simp only [List.length_append, List.length_cons]; omega)
  refine hcl.mono ?_
  clear hcl
  rintro e V2 ⟨q2, i2, rfl, hq2, gV2, t2⟩
  have sV2 : V1.heap.size ≤ V2.heap.size := gV2.size
  have GV2 : Hid (Below W.heap.size W V2) := (unhide GV1).trans (gV2.mono (by have := (unhide GV1).size; show W.heap.size ≤ V1.heap.size; omega))
  have kc : ∀ k o, k < V1.heap.size → V2.cell? ⟨k, o, none⟩ = V1.cell? ⟨k, o, none⟩ := fun k o hk => World.cell?_of_block (a := ⟨k, o, none⟩) (w := V1) (gV2.block k hk)
  have KEEP : V2.cell? ⟨tb, 0, none⟩ = some (.pointer (some ⟨xb, 0, none⟩)) ∧ V2.cell? ⟨tb, 1, none⟩ = some (.pointer lp) ∧ V2.cell? ⟨tb, 2, none⟩ = some (.pointer rp) := ⟨(kc _ _ htl).trans KEEP.1, (kc _ _ htl).trans KEEP.2.1, (kc _ _ htl).trans KEEP.2.2⟩
  have htl : tb < V2.heap.size := Nat.lt_of_lt_of_le htl sV2
  clear kc
  go_wp2_with fail
  refine hK.out _ _ ?_ (fun hHeld => ?_)
  · ((try dsimp only); exact KEEP)
  clear hK K hHold
  try simp only [Act.put, List.setIfInBounds_toArray, List.set_cons_zero, List.set_cons_succ]
  refine wpAnyH_take (i := 16) (oi := { dst := some 6, op := Op.assign (Operand.tmp 34), type := 95, pos := "tree.go:74", after := #[{ on := 15, ground := Ground.data }, { on := 15, ground := Ground.chain }, { on := 0, ground := Ground.phase }, { on := 1, ground := Ground.phase }, { on := 2, ground := Ground.phase }, { on := 3, ground := Ground.phase }, { on := 4, ground := Ground.phase }, { on := 5, ground := Ground.phase }, { on := 6, ground := Ground.phase }, { on := 7, ground := Ground.phase }, { on := 8, ground := Ground.phase }, { on := 9, ground := Ground.phase }, { on := 10, ground := Ground.phase }, { on := 11, ground := Ground.phase }, { on := 12, ground := Ground.phase }, { on := 13, ground := Ground.phase }, { on := 14, ground := Ground.phase }, { on := 15, ground := Ground.phase }], guard := none }) (v := ?_) rfl (by kernel_rfl) (by kernel_rfl) (by kernel_rfl) (fun _ _ _ h => h) (Or.inl ⟨by rfl, ?_⟩) hHeld ?_
  rotate_left
  · (intro w' hSw; (try dsimp only at hSw); go_simp; try with_reducible rfl)
  try simp only [Act.put, List.setIfInBounds_toArray, List.set_cons_zero, List.set_cons_succ]
  refine wpAnyH_done (by kernel_rfl) ?_ _
  refine NoPanic.normal ?_
  clear hHeld KEEP
  have HF : Hid (Below W.heap.size W V2 ∧ W.heap.size ≤ q2 ∧ TrL V2 (some ⟨q2, 0, none⟩) ((Ll ++ (xb, xl) :: Lr) ++ (eb, pl) :: Lo) i2) := ⟨unhide GV2, by omega, by have h := t2; rw [show Ll ++ (xb, xl) :: (Lr ++ (eb, pl) :: Lo) = (Ll ++ (xb, xl) :: Lr) ++ (eb, pl) :: Lo by simp] at h; exact h⟩
  clear t1 t2 gV1 gV2 GV0 GV1 GV2 HX
  go_wp2_with fail
  all_goals go_ret
  all_goals exact ⟨q2, i2, rfl, HF.out.2.1, HF.out.1, HF.out.2.2⟩
set_option maxRecDepth 100000 in
set_option maxHeartbeats 4000000 in
theorem leaningRight_a {W : World} {tb xb eb : Nat} {xl pl ht : Int} {lp rp op : Option Addr} {Ll Lr Lo : List (Nat × Int)} {hl hr ho : Int} (hb : W.heap[tb]? = some (.cells #[.pointer (some ⟨xb, 0, none⟩), .pointer lp, .pointer rp, .int .i64 ht] 117 (0, 0))) (hx : W.cell? ⟨xb, 0, none⟩ = some (.int .i64 xl)) (he : W.cell? ⟨eb, 0, none⟩ = some (.int .i64 pl)) (h1 : TrL W lp Ll hl) (h2 : TrL W rp Lr hr) (h3 : TrL W op Lo ho) (hn : Ll.length + Lr.length + Lo.length < 4611686018427387900) (hc : hl ≤ hr) :
    TreeC W 59 #[.pointer op, .pointer (some ⟨eb, 0, none⟩), .pointer (some ⟨tb, 0, none⟩)] (Lo ++ (eb, pl) :: (Ll ++ (xb, xl) :: Lr)) := by
  unfold TreeC
  have htl := cell_in (node_cells hb).1
  have hxl := cell_in hx
  have hel := cell_in he
  have GW : Hid (Below W.heap.size W W) := Below.refl _ _
  have HX : Hid (∀ V, Below W.heap.size W V → V.cell? ⟨xb, 0, none⟩ = some (.int .i64 xl) ∧ V.cell? ⟨eb, 0, none⟩ = some (.int .i64 pl) ∧ TrL V lp Ll hl ∧ TrL V rp Lr hr ∧ TrL V op Lo ho) := fun V hV => ⟨(hV.cell (p := ⟨xb, 0, none⟩) hxl).trans hx, (hV.cell (p := ⟨eb, 0, none⟩) hel).trans he, h1.below hV, h2.below hV, h3.below hV⟩
  obtain ⟨n0, n1, n2, n3⟩ := node_cells hb
  have HT : Hid (∀ V, Below W.heap.size W V → Calls Try.prog 57 #[.pointer rp] V fun e V' => e = .returned (.int .i64 hr) ∧ V' = V) := fun V hV => tall_any (h2.below hV).tall
  have HT2 : Hid (∀ V, Below W.heap.size W V → Calls Try.prog 57 #[.pointer lp] V fun e V' => e = .returned (.int .i64 hl) ∧ V' = V) := fun V hV => tall_any (h1.below hV).tall
  clear hb hx he h1 h2 h3 n3
  go_enter Try.func59, Try.ntmps59
  go_wp2_with fail
  have KEEP : W.cell? ⟨tb, 0, none⟩ = some (.pointer (some ⟨xb, 0, none⟩)) ∧ W.cell? ⟨tb, 1, none⟩ = some (.pointer lp) ∧ W.cell? ⟨tb, 2, none⟩ = some (.pointer rp) := ⟨n0, n1, n2⟩
  refine wp_region_noPanic ?_
  refine wp_region_held_drew (S := (fun w' => w'.cell? ⟨tb, 0, none⟩ = some (.pointer (some ⟨xb, 0, none⟩)) ∧ w'.cell? ⟨tb, 1, none⟩ = some (.pointer lp) ∧ w'.cell? ⟨tb, 2, none⟩ = some (.pointer rp))) (by kernel_rfl) ?_ (fun hHeld => ?_)
  · exact KEEP
  refine wpAnyH_take (i := 0) (oi := { dst := some 8, op := Op.move (Operand.tmp 2), type := 95, pos := "tree.go:81", after := #[], guard := none }) (v := ?_) rfl (by kernel_rfl) (by kernel_rfl) (by kernel_rfl) (fun _ _ _ h => h) (Or.inl ⟨by rfl, ?_⟩) hHeld ?_
  rotate_left
  · (intro w' hSw; (try dsimp only at hSw); go_simp; try with_reducible rfl)
  try simp only [Act.put, List.setIfInBounds_toArray, List.set_cons_zero, List.set_cons_succ]
  refine wpAnyH_take (i := 1) (oi := { dst := some 9, op := Op.nilCheck (Operand.tmp 8), type := 0, pos := "tree.go:81", after := #[{ on := 0, ground := Ground.data }], guard := none }) (v := ?_) rfl (by kernel_rfl) (by kernel_rfl) (by kernel_rfl) (fun _ _ _ h => h) (Or.inl ⟨by rfl, ?_⟩) hHeld ?_
  rotate_left
  · (intro w' hSw; (try dsimp only at hSw); go_simp; try with_reducible rfl)
  try simp only [Act.put, List.setIfInBounds_toArray, List.set_cons_zero, List.set_cons_succ]
  refine wpAnyH_take (i := 2) (oi := { dst := some 10, op := Op.fieldAddr 117 (Operand.tmp 9) 2, type := 0, pos := "tree.go:81", after := #[{ on := 1, ground := Ground.data }], guard := none }) (v := ?_) rfl (by kernel_rfl) (by kernel_rfl) (by kernel_rfl) (fun _ _ _ h => h) (Or.inl ⟨by rfl, ?_⟩) hHeld ?_
  rotate_left
  · (intro w' hSw; (try dsimp only at hSw); go_simp; try with_reducible rfl)
  try simp only [Act.put, List.setIfInBounds_toArray, List.set_cons_zero, List.set_cons_succ]
  refine wpAnyH_take (i := 3) (oi := { dst := some 11, op := Op.load 95 (Operand.tmp 10), type := 95, pos := "tree.go:81", after := #[{ on := 2, ground := Ground.data }], guard := none }) (v := ?_) rfl (by kernel_rfl) (by kernel_rfl) (by kernel_rfl) (fun _ _ _ h => h) (Or.inl ⟨by rfl, ?_⟩) hHeld ?_
  rotate_left
  · (intro w' hSw; (try dsimp only at hSw); go_simp; try with_reducible rfl)
  try simp only [Act.put, List.setIfInBounds_toArray, List.set_cons_zero, List.set_cons_succ]
  refine wpAnyH_take (i := 5) (oi := { dst := some 13, op := Op.move (Operand.tmp 2), type := 95, pos := "tree.go:81", after := #[], guard := none }) (v := ?_) rfl (by kernel_rfl) (by kernel_rfl) (by kernel_rfl) (fun _ _ _ h => h) (Or.inl ⟨by rfl, ?_⟩) hHeld ?_
  rotate_left
  · (intro w' hSw; (try dsimp only at hSw); go_simp; try with_reducible rfl)
  try simp only [Act.put, List.setIfInBounds_toArray, List.set_cons_zero, List.set_cons_succ]
  refine wpAnyH_take (i := 6) (oi := { dst := some 14, op := Op.nilCheck (Operand.tmp 13), type := 0, pos := "tree.go:81", after := #[{ on := 5, ground := Ground.data }], guard := none }) (v := ?_) rfl (by kernel_rfl) (by kernel_rfl) (by kernel_rfl) (fun _ _ _ h => h) (Or.inl ⟨by rfl, ?_⟩) hHeld ?_
  rotate_left
  · (intro w' hSw; (try dsimp only at hSw); go_simp; try with_reducible rfl)
  try simp only [Act.put, List.setIfInBounds_toArray, List.set_cons_zero, List.set_cons_succ]
  refine wpAnyH_take (i := 7) (oi := { dst := some 15, op := Op.fieldAddr 117 (Operand.tmp 14) 1, type := 0, pos := "tree.go:81", after := #[{ on := 6, ground := Ground.data }], guard := none }) (v := ?_) rfl (by kernel_rfl) (by kernel_rfl) (by kernel_rfl) (fun _ _ _ h => h) (Or.inl ⟨by rfl, ?_⟩) hHeld ?_
  rotate_left
  · (intro w' hSw; (try dsimp only at hSw); go_simp; try with_reducible rfl)
  try simp only [Act.put, List.setIfInBounds_toArray, List.set_cons_zero, List.set_cons_succ]
  refine wpAnyH_take (i := 8) (oi := { dst := some 16, op := Op.load 95 (Operand.tmp 15), type := 95, pos := "tree.go:81", after := #[{ on := 7, ground := Ground.data }], guard := none }) (v := ?_) rfl (by kernel_rfl) (by kernel_rfl) (by kernel_rfl) (fun _ _ _ h => h) (Or.inl ⟨by rfl, ?_⟩) hHeld ?_
  rotate_left
  · (intro w' hSw; (try dsimp only at hSw); go_simp; try with_reducible rfl)
  try simp only [Act.put, List.setIfInBounds_toArray, List.set_cons_zero, List.set_cons_succ]
  refine wpAnyH_ready (rs := [4]) (by kernel_rfl) (by simp) ?_
  refine AllReadyH.cons (o := { dst := some 12, op := Op.call { callee := Callee.value (Operand.func 57), args := #[Operand.tmp 11], argTypes := #[95] }, type := 3, pos := "tree.go:81", after := #[{ on := 3, ground := Ground.data }], guard := none }) rfl (fun K hK => ?_) AllReadyH.nil
  have hHold := hHeld
  clear hHeld
  go_simp
  refine (HT.out W.drew (unhide GW).drew).mono ?_
  rintro e V1 ⟨rfl, rfl⟩
  go_wp2_with fail
  refine hK.out _ _ ?_ (fun hHeld => ?_)
  · ((try dsimp only); exact KEEP)
  clear hK K hHold
  try simp only [Act.put, List.setIfInBounds_toArray, List.set_cons_zero, List.set_cons_succ]
  refine wpAnyH_ready (rs := [9]) (by kernel_rfl) (by simp) ?_
  refine AllReadyH.cons (o := { dst := some 17, op := Op.call { callee := Callee.value (Operand.func 57), args := #[Operand.tmp 16], argTypes := #[95] }, type := 3, pos := "tree.go:81", after := #[{ on := 8, ground := Ground.data }, { on := 4, ground := Ground.chain }], guard := none }) rfl (fun K hK => ?_) AllReadyH.nil
  have hHold := hHeld
  clear hHeld
  go_simp
  refine (HT2.out W.drew (unhide GW).drew).mono ?_
  rintro e V1 ⟨rfl, rfl⟩
  go_wp2_with fail
  refine hK.out _ _ ?_ (fun hHeld => ?_)
  · ((try dsimp only); exact KEEP)
  clear hK K hHold
  try simp only [Act.put, List.setIfInBounds_toArray, List.set_cons_zero, List.set_cons_succ]
  refine wpAnyH_take (i := 10) (oi := { dst := some 18, op := Op.binOp BinOp.geq 3 (Operand.tmp 12) (Operand.tmp 17) 3, type := 4, pos := "tree.go:81", after := #[{ on := 4, ground := Ground.data }, { on := 9, ground := Ground.data }], guard := none }) (v := ?_) rfl (by kernel_rfl) (by kernel_rfl) (by kernel_rfl) (fun _ _ _ h => h) (Or.inl ⟨by rfl, ?_⟩) hHeld ?_
  rotate_left
  · (intro w' hSw; (try dsimp only at hSw); go_simp; try with_reducible rfl)
  try simp only [Act.put, List.setIfInBounds_toArray, List.set_cons_zero, List.set_cons_succ]
  refine wpAnyH_done (by kernel_rfl) ?_ _
  refine NoPanic.normal ?_
  clear hHeld KEEP HT HT2
  have WD : Hid (Below W.heap.size W W.drew) := (Below.refl _ W).drew
  obtain ⟨V0, hV0⟩ : ∃ V0, W.drew = V0 := ⟨_, rfl⟩
  have s0 : V0.heap.size = W.heap.size := by rw [← hV0]; rfl
  rw [hV0] at WD
  have GV0 : Hid (Below W.heap.size W V0) := WD.out
  rw [hV0]
  clear WD
  have m0 : V0.cell? ⟨tb, 0, none⟩ = some (.pointer (some ⟨xb, 0, none⟩)) := ((unhide GV0).cell (p := ⟨tb, 0, none⟩) htl).trans n0
  have m1 : V0.cell? ⟨tb, 1, none⟩ = some (.pointer lp) := ((unhide GV0).cell (p := ⟨tb, 1, none⟩) htl).trans n1
  have m2 : V0.cell? ⟨tb, 2, none⟩ = some (.pointer rp) := ((unhide GV0).cell (p := ⟨tb, 2, none⟩) htl).trans n2
  clear n0 n1 n2 hV0
  replace htl : tb < V0.heap.size := by omega
  have hge : hr ≥ hl := hc
  clear hc
  go_wp2_with fail
  have KEEP : V0.cell? ⟨tb, 0, none⟩ = some (.pointer (some ⟨xb, 0, none⟩)) ∧ V0.cell? ⟨tb, 1, none⟩ = some (.pointer lp) ∧ V0.cell? ⟨tb, 2, none⟩ = some (.pointer rp) := ⟨m0, m1, m2⟩
  refine wp_region_noPanic ?_
  refine wp_region_held_drew (S := (fun w' => w'.cell? ⟨tb, 0, none⟩ = some (.pointer (some ⟨xb, 0, none⟩)) ∧ w'.cell? ⟨tb, 1, none⟩ = some (.pointer lp) ∧ w'.cell? ⟨tb, 2, none⟩ = some (.pointer rp))) (by kernel_rfl) ?_ (fun hHeld => ?_)
  · exact KEEP
  refine wpAnyH_take (i := 0) (oi := { dst := some 19, op := Op.move (Operand.tmp 0), type := 95, pos := "tree.go:82", after := #[], guard := none }) (v := ?_) rfl (by kernel_rfl) (by kernel_rfl) (by kernel_rfl) (fun _ _ _ h => h) (Or.inl ⟨by rfl, ?_⟩) hHeld ?_
  rotate_left
  · (intro w' hSw; (try dsimp only at hSw); go_simp; try with_reducible rfl)
  try simp only [Act.put, List.setIfInBounds_toArray, List.set_cons_zero, List.set_cons_succ]
  refine wpAnyH_take (i := 1) (oi := { dst := some 20, op := Op.move (Operand.tmp 1), type := 61, pos := "tree.go:82", after := #[], guard := none }) (v := ?_) rfl (by kernel_rfl) (by kernel_rfl) (by kernel_rfl) (fun _ _ _ h => h) (Or.inl ⟨by rfl, ?_⟩) hHeld ?_
  rotate_left
  · (intro w' hSw; (try dsimp only at hSw); go_simp; try with_reducible rfl)
  try simp only [Act.put, List.setIfInBounds_toArray, List.set_cons_zero, List.set_cons_succ]
  refine wpAnyH_take (i := 2) (oi := { dst := some 21, op := Op.move (Operand.tmp 2), type := 95, pos := "tree.go:82", after := #[], guard := none }) (v := ?_) rfl (by kernel_rfl) (by kernel_rfl) (by kernel_rfl) (fun _ _ _ h => h) (Or.inl ⟨by rfl, ?_⟩) hHeld ?_
  rotate_left
  · (intro w' hSw; (try dsimp only at hSw); go_simp; try with_reducible rfl)
  try simp only [Act.put, List.setIfInBounds_toArray, List.set_cons_zero, List.set_cons_succ]
  refine wpAnyH_take (i := 3) (oi := { dst := some 22, op := Op.nilCheck (Operand.tmp 21), type := 0, pos := "tree.go:82", after := #[{ on := 2, ground := Ground.data }], guard := none }) (v := ?_) rfl (by kernel_rfl) (by kernel_rfl) (by kernel_rfl) (fun _ _ _ h => h) (Or.inl ⟨by rfl, ?_⟩) hHeld ?_
  rotate_left
  · (intro w' hSw; (try dsimp only at hSw); go_simp; try with_reducible rfl)
  try simp only [Act.put, List.setIfInBounds_toArray, List.set_cons_zero, List.set_cons_succ]
  refine wpAnyH_take (i := 4) (oi := { dst := some 23, op := Op.fieldAddr 117 (Operand.tmp 22) 1, type := 0, pos := "tree.go:82", after := #[{ on := 3, ground := Ground.data }], guard := none }) (v := ?_) rfl (by kernel_rfl) (by kernel_rfl) (by kernel_rfl) (fun _ _ _ h => h) (Or.inl ⟨by rfl, ?_⟩) hHeld ?_
  rotate_left
  · (intro w' hSw; (try dsimp only at hSw); go_simp; try with_reducible rfl)
  try simp only [Act.put, List.setIfInBounds_toArray, List.set_cons_zero, List.set_cons_succ]
  refine wpAnyH_take (i := 5) (oi := { dst := some 24, op := Op.load 95 (Operand.tmp 23), type := 95, pos := "tree.go:82", after := #[{ on := 4, ground := Ground.data }], guard := none }) (v := ?_) rfl (by kernel_rfl) (by kernel_rfl) (by kernel_rfl) (fun _ _ _ h => h) (Or.inl ⟨by rfl, ?_⟩) hHeld ?_
  rotate_left
  · (intro w' hSw; (try dsimp only at hSw); go_simp; try with_reducible rfl)
  try simp only [Act.put, List.setIfInBounds_toArray, List.set_cons_zero, List.set_cons_succ]
  refine wpAnyH_take (i := 7) (oi := { dst := some 26, op := Op.move (Operand.tmp 2), type := 95, pos := "tree.go:82", after := #[], guard := none }) (v := ?_) rfl (by kernel_rfl) (by kernel_rfl) (by kernel_rfl) (fun _ _ _ h => h) (Or.inl ⟨by rfl, ?_⟩) hHeld ?_
  rotate_left
  · (intro w' hSw; (try dsimp only at hSw); go_simp; try with_reducible rfl)
  try simp only [Act.put, List.setIfInBounds_toArray, List.set_cons_zero, List.set_cons_succ]
  refine wpAnyH_take (i := 8) (oi := { dst := some 27, op := Op.nilCheck (Operand.tmp 26), type := 0, pos := "tree.go:82", after := #[{ on := 7, ground := Ground.data }], guard := none }) (v := ?_) rfl (by kernel_rfl) (by kernel_rfl) (by kernel_rfl) (fun _ _ _ h => h) (Or.inl ⟨by rfl, ?_⟩) hHeld ?_
  rotate_left
  · (intro w' hSw; (try dsimp only at hSw); go_simp; try with_reducible rfl)
  try simp only [Act.put, List.setIfInBounds_toArray, List.set_cons_zero, List.set_cons_succ]
  refine wpAnyH_take (i := 9) (oi := { dst := some 28, op := Op.fieldAddr 117 (Operand.tmp 27) 0, type := 0, pos := "tree.go:82", after := #[{ on := 8, ground := Ground.data }], guard := none }) (v := ?_) rfl (by kernel_rfl) (by kernel_rfl) (by kernel_rfl) (fun _ _ _ h => h) (Or.inl ⟨by rfl, ?_⟩) hHeld ?_
  rotate_left
  · (intro w' hSw; (try dsimp only at hSw); go_simp; try with_reducible rfl)
  try simp only [Act.put, List.setIfInBounds_toArray, List.set_cons_zero, List.set_cons_succ]
  refine wpAnyH_take (i := 10) (oi := { dst := some 29, op := Op.load 61 (Operand.tmp 28), type := 61, pos := "tree.go:82", after := #[{ on := 9, ground := Ground.data }], guard := none }) (v := ?_) rfl (by kernel_rfl) (by kernel_rfl) (by kernel_rfl) (fun _ _ _ h => h) (Or.inl ⟨by rfl, ?_⟩) hHeld ?_
  rotate_left
  · (intro w' hSw; (try dsimp only at hSw); go_simp; try with_reducible rfl)
  try simp only [Act.put, List.setIfInBounds_toArray, List.set_cons_zero, List.set_cons_succ]
  refine wpAnyH_take (i := 11) (oi := { dst := some 30, op := Op.move (Operand.tmp 2), type := 95, pos := "tree.go:82", after := #[], guard := none }) (v := ?_) rfl (by kernel_rfl) (by kernel_rfl) (by kernel_rfl) (fun _ _ _ h => h) (Or.inl ⟨by rfl, ?_⟩) hHeld ?_
  rotate_left
  · (intro w' hSw; (try dsimp only at hSw); go_simp; try with_reducible rfl)
  try simp only [Act.put, List.setIfInBounds_toArray, List.set_cons_zero, List.set_cons_succ]
  refine wpAnyH_take (i := 12) (oi := { dst := some 31, op := Op.nilCheck (Operand.tmp 30), type := 0, pos := "tree.go:82", after := #[{ on := 11, ground := Ground.data }], guard := none }) (v := ?_) rfl (by kernel_rfl) (by kernel_rfl) (by kernel_rfl) (fun _ _ _ h => h) (Or.inl ⟨by rfl, ?_⟩) hHeld ?_
  rotate_left
  · (intro w' hSw; (try dsimp only at hSw); go_simp; try with_reducible rfl)
  try simp only [Act.put, List.setIfInBounds_toArray, List.set_cons_zero, List.set_cons_succ]
  refine wpAnyH_take (i := 13) (oi := { dst := some 32, op := Op.fieldAddr 117 (Operand.tmp 31) 2, type := 0, pos := "tree.go:82", after := #[{ on := 12, ground := Ground.data }], guard := none }) (v := ?_) rfl (by kernel_rfl) (by kernel_rfl) (by kernel_rfl) (fun _ _ _ h => h) (Or.inl ⟨by rfl, ?_⟩) hHeld ?_
  rotate_left
  · (intro w' hSw; (try dsimp only at hSw); go_simp; try with_reducible rfl)
  try simp only [Act.put, List.setIfInBounds_toArray, List.set_cons_zero, List.set_cons_succ]
  refine wpAnyH_take (i := 14) (oi := { dst := some 33, op := Op.load 95 (Operand.tmp 32), type := 95, pos := "tree.go:82", after := #[{ on := 13, ground := Ground.data }], guard := none }) (v := ?_) rfl (by kernel_rfl) (by kernel_rfl) (by kernel_rfl) (fun _ _ _ h => h) (Or.inl ⟨by rfl, ?_⟩) hHeld ?_
  rotate_left
  · (intro w' hSw; (try dsimp only at hSw); go_simp; try with_reducible rfl)
  try simp only [Act.put, List.setIfInBounds_toArray, List.set_cons_zero, List.set_cons_succ]
  refine wpAnyH_ready (rs := [6]) (by kernel_rfl) (by simp) ?_
  refine AllReadyH.cons (o := { dst := some 25, op := Op.call { callee := Callee.value (Operand.func 50), args := #[Operand.tmp 19, Operand.tmp 20, Operand.tmp 24], argTypes := #[95, 61, 95] }, type := 95, pos := "tree.go:82", after := #[{ on := 0, ground := Ground.data }, { on := 1, ground := Ground.data }, { on := 5, ground := Ground.data }], guard := none }) rfl (fun K hK => ?_) AllReadyH.nil
  have hHold := hHeld
  clear hHeld
  go_simp
  have hcl := grownC (HX.out V0.drew (unhide GV0).drew).2.2.2.2 (HX.out V0.drew (unhide GV0).drew).2.2.1 eb pl (HX.out V0.drew (unhide GV0).drew).2.1 (by omega)
  refine hcl.mono ?_
  clear hcl
  rintro e V1 ⟨q1, i1, rfl, hq1, gV1, t1⟩
  have sV1 : V0.heap.size ≤ V1.heap.size := gV1.size
  have GV1 : Hid (Below W.heap.size W V1) := (unhide GV0).drew.trans (gV1.mono (by have := (unhide GV0).size; show W.heap.size ≤ V0.heap.size; omega))
  have kc : ∀ k o, k < V0.heap.size → V1.cell? ⟨k, o, none⟩ = V0.cell? ⟨k, o, none⟩ := fun k o hk => World.cell?_of_block (a := ⟨k, o, none⟩) (w := V0) (gV1.block k hk)
  have KEEP : V1.cell? ⟨tb, 0, none⟩ = some (.pointer (some ⟨xb, 0, none⟩)) ∧ V1.cell? ⟨tb, 1, none⟩ = some (.pointer lp) ∧ V1.cell? ⟨tb, 2, none⟩ = some (.pointer rp) := ⟨(kc _ _ htl).trans KEEP.1, (kc _ _ htl).trans KEEP.2.1, (kc _ _ htl).trans KEEP.2.2⟩
  have htl : tb < V1.heap.size := Nat.lt_of_lt_of_le htl sV1
  clear kc
  go_wp2_with fail
  refine hK.out _ _ ?_ (fun hHeld => ?_)
  · ((try dsimp only); exact KEEP)
  clear hK K hHold
  try simp only [Act.put, List.setIfInBounds_toArray, List.set_cons_zero, List.set_cons_succ]
  refine wpAnyH_ready (rs := [15]) (by kernel_rfl) (by simp) ?_
  refine AllReadyH.cons (o := { dst := some 34, op := Op.call { callee := Callee.value (Operand.func 50), args := #[Operand.tmp 25, Operand.tmp 29, Operand.tmp 33], argTypes := #[95, 61, 95] }, type := 95, pos := "tree.go:82", after := #[{ on := 6, ground := Ground.data }, { on := 10, ground := Ground.data }, { on := 14, ground := Ground.data }, { on := 6, ground := Ground.chain }], guard := none }) rfl (fun K hK => ?_) AllReadyH.nil
  have hHold := hHeld
  clear hHeld
  go_simp
  have hcl := grownC t1 (HX.out V1 (unhide GV1)).2.2.2.1 xb xl (HX.out V1 (unhide GV1)).1 (by simp only [List.length_append, List.length_cons]; omega)
  refine hcl.mono ?_
  clear hcl
  rintro e V2 ⟨q2, i2, rfl, hq2, gV2, t2⟩
  have sV2 : V1.heap.size ≤ V2.heap.size := gV2.size
  have GV2 : Hid (Below W.heap.size W V2) := (unhide GV1).trans (gV2.mono (by have := (unhide GV1).size; show W.heap.size ≤ V1.heap.size; omega))
  have kc : ∀ k o, k < V1.heap.size → V2.cell? ⟨k, o, none⟩ = V1.cell? ⟨k, o, none⟩ := fun k o hk => World.cell?_of_block (a := ⟨k, o, none⟩) (w := V1) (gV2.block k hk)
  have KEEP : V2.cell? ⟨tb, 0, none⟩ = some (.pointer (some ⟨xb, 0, none⟩)) ∧ V2.cell? ⟨tb, 1, none⟩ = some (.pointer lp) ∧ V2.cell? ⟨tb, 2, none⟩ = some (.pointer rp) := ⟨(kc _ _ htl).trans KEEP.1, (kc _ _ htl).trans KEEP.2.1, (kc _ _ htl).trans KEEP.2.2⟩
  have htl : tb < V2.heap.size := Nat.lt_of_lt_of_le htl sV2
  clear kc
  go_wp2_with fail
  refine hK.out _ _ ?_ (fun hHeld => ?_)
  · ((try dsimp only); exact KEEP)
  clear hK K hHold
  try simp only [Act.put, List.setIfInBounds_toArray, List.set_cons_zero, List.set_cons_succ]
  refine wpAnyH_take (i := 16) (oi := { dst := some 6, op := Op.assign (Operand.tmp 34), type := 95, pos := "tree.go:82", after := #[{ on := 15, ground := Ground.data }, { on := 15, ground := Ground.chain }, { on := 0, ground := Ground.phase }, { on := 1, ground := Ground.phase }, { on := 2, ground := Ground.phase }, { on := 3, ground := Ground.phase }, { on := 4, ground := Ground.phase }, { on := 5, ground := Ground.phase }, { on := 6, ground := Ground.phase }, { on := 7, ground := Ground.phase }, { on := 8, ground := Ground.phase }, { on := 9, ground := Ground.phase }, { on := 10, ground := Ground.phase }, { on := 11, ground := Ground.phase }, { on := 12, ground := Ground.phase }, { on := 13, ground := Ground.phase }, { on := 14, ground := Ground.phase }, { on := 15, ground := Ground.phase }], guard := none }) (v := ?_) rfl (by kernel_rfl) (by kernel_rfl) (by kernel_rfl) (fun _ _ _ h => h) (Or.inl ⟨by rfl, ?_⟩) hHeld ?_
  rotate_left
  · (intro w' hSw; (try dsimp only at hSw); go_simp; try with_reducible rfl)
  try simp only [Act.put, List.setIfInBounds_toArray, List.set_cons_zero, List.set_cons_succ]
  refine wpAnyH_done (by kernel_rfl) ?_ _
  refine NoPanic.normal ?_
  clear hHeld KEEP
  have HF : Hid (Below W.heap.size W V2 ∧ W.heap.size ≤ q2 ∧ TrL V2 (some ⟨q2, 0, none⟩) (Lo ++ (eb, pl) :: (Ll ++ (xb, xl) :: Lr)) i2) := ⟨unhide GV2, by omega, by have h := t2; rw [show (Lo ++ (eb, pl) :: Ll) ++ (xb, xl) :: Lr = Lo ++ (eb, pl) :: (Ll ++ (xb, xl) :: Lr) by simp] at h; exact h⟩
  clear t1 t2 gV1 gV2 GV0 GV1 GV2 HX
  go_wp2_with fail
  all_goals go_ret
  all_goals exact ⟨q2, i2, rfl, HF.out.2.1, HF.out.1, HF.out.2.2⟩
set_option maxRecDepth 100000 in
set_option maxHeartbeats 4000000 in
theorem leaningLeft_b {W : World} {tb xb eb ub yb : Nat} {xl pl ht yl : Int} {np ulp urp op : Option Addr} {Ln Lul Lur Lo : List (Nat × Int)} {hn hul hur ho : Int} (hb : W.heap[tb]? = some (.cells #[.pointer (some ⟨xb, 0, none⟩), .pointer np, .pointer (some ⟨ub, 0, none⟩), .int .i64 ht] 117 (0, 0))) (hu : W.heap[ub]? = some (.cells #[.pointer (some ⟨yb, 0, none⟩), .pointer ulp, .pointer urp, .int .i64 (max hul hur + 1)] 117 (0, 0))) (hx : W.cell? ⟨xb, 0, none⟩ = some (.int .i64 xl)) (hy : W.cell? ⟨yb, 0, none⟩ = some (.int .i64 yl)) (he : W.cell? ⟨eb, 0, none⟩ = some (.int .i64 pl)) (h1 : TrL W np Ln hn) (h2 : TrL W ulp Lul hul) (h4 : TrL W urp Lur hur) (h3 : TrL W op Lo ho) (hnn : Ln.length + Lul.length + Lur.length + Lo.length < 4611686018427387900) (hc : hn < max hul hur + 1) :
    TreeC W 58 #[.pointer (some ⟨tb, 0, none⟩), .pointer (some ⟨eb, 0, none⟩), .pointer op] ((Ln ++ (xb, xl) :: (Lul ++ (yb, yl) :: Lur)) ++ (eb, pl) :: Lo) := by
  unfold TreeC
  have htl := cell_in (node_cells hb).1
  have hul' := cell_in (node_cells hu).1
  have hxl := cell_in hx
  have hyl := cell_in hy
  have hel := cell_in he
  have GW : Hid (Below W.heap.size W W) := Below.refl _ _
  have HX : Hid (∀ V, Below W.heap.size W V → V.cell? ⟨xb, 0, none⟩ = some (.int .i64 xl) ∧ V.cell? ⟨eb, 0, none⟩ = some (.int .i64 pl) ∧ V.cell? ⟨yb, 0, none⟩ = some (.int .i64 yl) ∧ TrL V np Ln hn ∧ TrL V ulp Lul hul ∧ TrL V urp Lur hur ∧ TrL V op Lo ho) := fun V hV => ⟨(hV.cell (p := ⟨xb, 0, none⟩) hxl).trans hx, (hV.cell (p := ⟨eb, 0, none⟩) hel).trans he, (hV.cell (p := ⟨yb, 0, none⟩) hyl).trans hy, h1.below hV, h2.below hV, h4.below hV, h3.below hV⟩
  obtain ⟨n0, n1, n2, -⟩ := node_cells hb
  obtain ⟨u0, u1, u2, -⟩ := node_cells hu
  have HTN : Hid (∀ V, Below W.heap.size W V → Calls Try.prog 57 #[.pointer np] V fun e V' => e = .returned (.int .i64 hn) ∧ V' = V) := fun V hV => tall_any (h1.below hV).tall
  have HTF : Hid (∀ V, Below W.heap.size W V → Calls Try.prog 57 #[.pointer (some ⟨ub, 0, none⟩)] V fun e V' => e = .returned (.int .i64 (max hul hur + 1)) ∧ V' = V) := fun V hV => tall_any ((h2.node h4 hu hy).below hV).tall
  generalize max hul hur + 1 = uh at *
  clear hb hu hx hy he h1 h2 h3 h4
  go_enter Try.func58, Try.ntmps58
  go_wp2_with fail
  have KEEP : W.cell? ⟨tb, 0, none⟩ = some (.pointer (some ⟨xb, 0, none⟩)) ∧ W.cell? ⟨tb, 1, none⟩ = some (.pointer np) ∧ W.cell? ⟨tb, 2, none⟩ = some (.pointer (some ⟨ub, 0, none⟩)) := ⟨n0, n1, n2⟩
  refine wp_region_noPanic ?_
  refine wp_region_held_drew (S := (fun w' => w'.cell? ⟨tb, 0, none⟩ = some (.pointer (some ⟨xb, 0, none⟩)) ∧ w'.cell? ⟨tb, 1, none⟩ = some (.pointer np) ∧ w'.cell? ⟨tb, 2, none⟩ = some (.pointer (some ⟨ub, 0, none⟩)))) (by kernel_rfl) ?_ (fun hHeld => ?_)
  · exact KEEP
  refine wpAnyH_take (i := 0) (oi := { dst := some 8, op := Op.move (Operand.tmp 0), type := 95, pos := "tree.go:73", after := #[], guard := none }) (v := ?_) rfl (by kernel_rfl) (by kernel_rfl) (by kernel_rfl) (fun _ _ _ h => h) (Or.inl ⟨by rfl, ?_⟩) hHeld ?_
  rotate_left
  · (intro w' hSw; (try dsimp only at hSw); go_simp; try with_reducible rfl)
  try simp only [Act.put, List.setIfInBounds_toArray, List.set_cons_zero, List.set_cons_succ]
  refine wpAnyH_take (i := 1) (oi := { dst := some 9, op := Op.nilCheck (Operand.tmp 8), type := 0, pos := "tree.go:73", after := #[{ on := 0, ground := Ground.data }], guard := none }) (v := ?_) rfl (by kernel_rfl) (by kernel_rfl) (by kernel_rfl) (fun _ _ _ h => h) (Or.inl ⟨by rfl, ?_⟩) hHeld ?_
  rotate_left
  · (intro w' hSw; (try dsimp only at hSw); go_simp; try with_reducible rfl)
  try simp only [Act.put, List.setIfInBounds_toArray, List.set_cons_zero, List.set_cons_succ]
  refine wpAnyH_take (i := 2) (oi := { dst := some 10, op := Op.fieldAddr 117 (Operand.tmp 9) 1, type := 0, pos := "tree.go:73", after := #[{ on := 1, ground := Ground.data }], guard := none }) (v := ?_) rfl (by kernel_rfl) (by kernel_rfl) (by kernel_rfl) (fun _ _ _ h => h) (Or.inl ⟨by rfl, ?_⟩) hHeld ?_
  rotate_left
  · (intro w' hSw; (try dsimp only at hSw); go_simp; try with_reducible rfl)
  try simp only [Act.put, List.setIfInBounds_toArray, List.set_cons_zero, List.set_cons_succ]
  refine wpAnyH_take (i := 3) (oi := { dst := some 11, op := Op.load 95 (Operand.tmp 10), type := 95, pos := "tree.go:73", after := #[{ on := 2, ground := Ground.data }], guard := none }) (v := ?_) rfl (by kernel_rfl) (by kernel_rfl) (by kernel_rfl) (fun _ _ _ h => h) (Or.inl ⟨by rfl, ?_⟩) hHeld ?_
  rotate_left
  · (intro w' hSw; (try dsimp only at hSw); go_simp; try with_reducible rfl)
  try simp only [Act.put, List.setIfInBounds_toArray, List.set_cons_zero, List.set_cons_succ]
  refine wpAnyH_take (i := 5) (oi := { dst := some 13, op := Op.move (Operand.tmp 0), type := 95, pos := "tree.go:73", after := #[], guard := none }) (v := ?_) rfl (by kernel_rfl) (by kernel_rfl) (by kernel_rfl) (fun _ _ _ h => h) (Or.inl ⟨by rfl, ?_⟩) hHeld ?_
  rotate_left
  · (intro w' hSw; (try dsimp only at hSw); go_simp; try with_reducible rfl)
  try simp only [Act.put, List.setIfInBounds_toArray, List.set_cons_zero, List.set_cons_succ]
  refine wpAnyH_take (i := 6) (oi := { dst := some 14, op := Op.nilCheck (Operand.tmp 13), type := 0, pos := "tree.go:73", after := #[{ on := 5, ground := Ground.data }], guard := none }) (v := ?_) rfl (by kernel_rfl) (by kernel_rfl) (by kernel_rfl) (fun _ _ _ h => h) (Or.inl ⟨by rfl, ?_⟩) hHeld ?_
  rotate_left
  · (intro w' hSw; (try dsimp only at hSw); go_simp; try with_reducible rfl)
  try simp only [Act.put, List.setIfInBounds_toArray, List.set_cons_zero, List.set_cons_succ]
  refine wpAnyH_take (i := 7) (oi := { dst := some 15, op := Op.fieldAddr 117 (Operand.tmp 14) 2, type := 0, pos := "tree.go:73", after := #[{ on := 6, ground := Ground.data }], guard := none }) (v := ?_) rfl (by kernel_rfl) (by kernel_rfl) (by kernel_rfl) (fun _ _ _ h => h) (Or.inl ⟨by rfl, ?_⟩) hHeld ?_
  rotate_left
  · (intro w' hSw; (try dsimp only at hSw); go_simp; try with_reducible rfl)
  try simp only [Act.put, List.setIfInBounds_toArray, List.set_cons_zero, List.set_cons_succ]
  refine wpAnyH_take (i := 8) (oi := { dst := some 16, op := Op.load 95 (Operand.tmp 15), type := 95, pos := "tree.go:73", after := #[{ on := 7, ground := Ground.data }], guard := none }) (v := ?_) rfl (by kernel_rfl) (by kernel_rfl) (by kernel_rfl) (fun _ _ _ h => h) (Or.inl ⟨by rfl, ?_⟩) hHeld ?_
  rotate_left
  · (intro w' hSw; (try dsimp only at hSw); go_simp; try with_reducible rfl)
  try simp only [Act.put, List.setIfInBounds_toArray, List.set_cons_zero, List.set_cons_succ]
  refine wpAnyH_ready (rs := [4]) (by kernel_rfl) (by simp) ?_
  refine AllReadyH.cons (o := { dst := some 12, op := Op.call { callee := Callee.value (Operand.func 57), args := #[Operand.tmp 11], argTypes := #[95] }, type := 3, pos := "tree.go:73", after := #[{ on := 3, ground := Ground.data }], guard := none }) rfl (fun K hK => ?_) AllReadyH.nil
  have hHold := hHeld
  clear hHeld
  go_simp
  refine (HTN.out W.drew (unhide GW).drew).mono ?_
  rintro e V1 ⟨rfl, rfl⟩
  go_wp2_with fail
  refine hK.out _ _ ?_ (fun hHeld => ?_)
  · ((try dsimp only); exact KEEP)
  clear hK K hHold
  try simp only [Act.put, List.setIfInBounds_toArray, List.set_cons_zero, List.set_cons_succ]
  refine wpAnyH_ready (rs := [9]) (by kernel_rfl) (by simp) ?_
  refine AllReadyH.cons (o := { dst := some 17, op := Op.call { callee := Callee.value (Operand.func 57), args := #[Operand.tmp 16], argTypes := #[95] }, type := 3, pos := "tree.go:73", after := #[{ on := 8, ground := Ground.data }, { on := 4, ground := Ground.chain }], guard := none }) rfl (fun K hK => ?_) AllReadyH.nil
  have hHold := hHeld
  clear hHeld
  go_simp
  refine (HTF.out W.drew (unhide GW).drew).mono ?_
  rintro e V1 ⟨rfl, rfl⟩
  go_wp2_with fail
  refine hK.out _ _ ?_ (fun hHeld => ?_)
  · ((try dsimp only); exact KEEP)
  clear hK K hHold
  try simp only [Act.put, List.setIfInBounds_toArray, List.set_cons_zero, List.set_cons_succ]
  refine wpAnyH_take (i := 10) (oi := { dst := some 18, op := Op.binOp BinOp.geq 3 (Operand.tmp 12) (Operand.tmp 17) 3, type := 4, pos := "tree.go:73", after := #[{ on := 4, ground := Ground.data }, { on := 9, ground := Ground.data }], guard := none }) (v := ?_) rfl (by kernel_rfl) (by kernel_rfl) (by kernel_rfl) (fun _ _ _ h => h) (Or.inl ⟨by rfl, ?_⟩) hHeld ?_
  rotate_left
  · (intro w' hSw; (try dsimp only at hSw); go_simp; try with_reducible rfl)
  try simp only [Act.put, List.setIfInBounds_toArray, List.set_cons_zero, List.set_cons_succ]
  refine wpAnyH_done (by kernel_rfl) ?_ _
  refine NoPanic.normal ?_
  clear hHeld KEEP HTN HTF
  have WD : Hid (Below W.heap.size W W.drew) := (Below.refl _ W).drew
  obtain ⟨V0, hV0⟩ : ∃ V0, W.drew = V0 := ⟨_, rfl⟩
  have s0 : V0.heap.size = W.heap.size := by rw [← hV0]; rfl
  rw [hV0] at WD
  have GV0 : Hid (Below W.heap.size W V0) := WD.out
  rw [hV0]
  clear WD
  have m0 : V0.cell? ⟨tb, 0, none⟩ = some (.pointer (some ⟨xb, 0, none⟩)) := ((unhide GV0).cell (p := ⟨tb, 0, none⟩) htl).trans n0
  have m1 : V0.cell? ⟨tb, 1, none⟩ = some (.pointer np) := ((unhide GV0).cell (p := ⟨tb, 1, none⟩) htl).trans n1
  have m2 : V0.cell? ⟨tb, 2, none⟩ = some (.pointer (some ⟨ub, 0, none⟩)) := ((unhide GV0).cell (p := ⟨tb, 2, none⟩) htl).trans n2
  have w0 : V0.cell? ⟨ub, 0, none⟩ = some (.pointer (some ⟨yb, 0, none⟩)) := ((unhide GV0).cell (p := ⟨ub, 0, none⟩) hul').trans u0
  have w1 : V0.cell? ⟨ub, 1, none⟩ = some (.pointer ulp) := ((unhide GV0).cell (p := ⟨ub, 1, none⟩) hul').trans u1
  have w2 : V0.cell? ⟨ub, 2, none⟩ = some (.pointer urp) := ((unhide GV0).cell (p := ⟨ub, 2, none⟩) hul').trans u2
  clear n0 n1 n2 u0 u1 u2 hV0
  replace htl : tb < V0.heap.size := by omega
  replace hul' : ub < V0.heap.size := by omega
  have hge : ¬ (hn ≥ uh) := by omega
  clear hc
  go_wp2_with fail
  have KEEP : V0.cell? ⟨tb, 0, none⟩ = some (.pointer (some ⟨xb, 0, none⟩)) ∧ V0.cell? ⟨tb, 1, none⟩ = some (.pointer np) ∧ V0.cell? ⟨tb, 2, none⟩ = some (.pointer (some ⟨ub, 0, none⟩)) ∧ V0.cell? ⟨ub, 0, none⟩ = some (.pointer (some ⟨yb, 0, none⟩)) ∧ V0.cell? ⟨ub, 1, none⟩ = some (.pointer ulp) ∧ V0.cell? ⟨ub, 2, none⟩ = some (.pointer urp) := ⟨m0, m1, m2, w0, w1, w2⟩
  refine wp_region_noPanic ?_
  refine wp_region_held_drew (S := (fun w' => w'.cell? ⟨tb, 0, none⟩ = some (.pointer (some ⟨xb, 0, none⟩)) ∧ w'.cell? ⟨tb, 1, none⟩ = some (.pointer np) ∧ w'.cell? ⟨tb, 2, none⟩ = some (.pointer (some ⟨ub, 0, none⟩)) ∧ w'.cell? ⟨ub, 0, none⟩ = some (.pointer (some ⟨yb, 0, none⟩)) ∧ w'.cell? ⟨ub, 1, none⟩ = some (.pointer ulp) ∧ w'.cell? ⟨ub, 2, none⟩ = some (.pointer urp))) (by kernel_rfl) ?_ (fun hHeld => ?_)
  · exact KEEP
  refine wpAnyH_take (i := 0) (oi := { dst := some 39, op := Op.move (Operand.tmp 0), type := 95, pos := "tree.go:77", after := #[], guard := none }) (v := ?_) rfl (by kernel_rfl) (by kernel_rfl) (by kernel_rfl) (fun _ _ _ h => h) (Or.inl ⟨by rfl, ?_⟩) hHeld ?_
  rotate_left
  · (intro w' hSw; (try dsimp only at hSw); go_simp; try with_reducible rfl)
  try simp only [Act.put, List.setIfInBounds_toArray, List.set_cons_zero, List.set_cons_succ]
  refine wpAnyH_take (i := 1) (oi := { dst := some 40, op := Op.nilCheck (Operand.tmp 39), type := 0, pos := "tree.go:77", after := #[{ on := 0, ground := Ground.data }], guard := none }) (v := ?_) rfl (by kernel_rfl) (by kernel_rfl) (by kernel_rfl) (fun _ _ _ h => h) (Or.inl ⟨by rfl, ?_⟩) hHeld ?_
  rotate_left
  · (intro w' hSw; (try dsimp only at hSw); go_simp; try with_reducible rfl)
  try simp only [Act.put, List.setIfInBounds_toArray, List.set_cons_zero, List.set_cons_succ]
  refine wpAnyH_take (i := 2) (oi := { dst := some 41, op := Op.fieldAddr 117 (Operand.tmp 40) 1, type := 0, pos := "tree.go:77", after := #[{ on := 1, ground := Ground.data }], guard := none }) (v := ?_) rfl (by kernel_rfl) (by kernel_rfl) (by kernel_rfl) (fun _ _ _ h => h) (Or.inl ⟨by rfl, ?_⟩) hHeld ?_
  rotate_left
  · (intro w' hSw; (try dsimp only at hSw); go_simp; try with_reducible rfl)
  try simp only [Act.put, List.setIfInBounds_toArray, List.set_cons_zero, List.set_cons_succ]
  refine wpAnyH_take (i := 3) (oi := { dst := some 42, op := Op.load 95 (Operand.tmp 41), type := 95, pos := "tree.go:77", after := #[{ on := 2, ground := Ground.data }], guard := none }) (v := ?_) rfl (by kernel_rfl) (by kernel_rfl) (by kernel_rfl) (fun _ _ _ h => h) (Or.inl ⟨by rfl, ?_⟩) hHeld ?_
  rotate_left
  · (intro w' hSw; (try dsimp only at hSw); go_simp; try with_reducible rfl)
  try simp only [Act.put, List.setIfInBounds_toArray, List.set_cons_zero, List.set_cons_succ]
  refine wpAnyH_take (i := 4) (oi := { dst := some 43, op := Op.move (Operand.tmp 0), type := 95, pos := "tree.go:77", after := #[], guard := none }) (v := ?_) rfl (by kernel_rfl) (by kernel_rfl) (by kernel_rfl) (fun _ _ _ h => h) (Or.inl ⟨by rfl, ?_⟩) hHeld ?_
  rotate_left
  · (intro w' hSw; (try dsimp only at hSw); go_simp; try with_reducible rfl)
  try simp only [Act.put, List.setIfInBounds_toArray, List.set_cons_zero, List.set_cons_succ]
  refine wpAnyH_take (i := 5) (oi := { dst := some 44, op := Op.nilCheck (Operand.tmp 43), type := 0, pos := "tree.go:77", after := #[{ on := 4, ground := Ground.data }], guard := none }) (v := ?_) rfl (by kernel_rfl) (by kernel_rfl) (by kernel_rfl) (fun _ _ _ h => h) (Or.inl ⟨by rfl, ?_⟩) hHeld ?_
  rotate_left
  · (intro w' hSw; (try dsimp only at hSw); go_simp; try with_reducible rfl)
  try simp only [Act.put, List.setIfInBounds_toArray, List.set_cons_zero, List.set_cons_succ]
  refine wpAnyH_take (i := 6) (oi := { dst := some 45, op := Op.fieldAddr 117 (Operand.tmp 44) 0, type := 0, pos := "tree.go:77", after := #[{ on := 5, ground := Ground.data }], guard := none }) (v := ?_) rfl (by kernel_rfl) (by kernel_rfl) (by kernel_rfl) (fun _ _ _ h => h) (Or.inl ⟨by rfl, ?_⟩) hHeld ?_
  rotate_left
  · (intro w' hSw; (try dsimp only at hSw); go_simp; try with_reducible rfl)
  try simp only [Act.put, List.setIfInBounds_toArray, List.set_cons_zero, List.set_cons_succ]
  refine wpAnyH_take (i := 7) (oi := { dst := some 46, op := Op.load 61 (Operand.tmp 45), type := 61, pos := "tree.go:77", after := #[{ on := 6, ground := Ground.data }], guard := none }) (v := ?_) rfl (by kernel_rfl) (by kernel_rfl) (by kernel_rfl) (fun _ _ _ h => h) (Or.inl ⟨by rfl, ?_⟩) hHeld ?_
  rotate_left
  · (intro w' hSw; (try dsimp only at hSw); go_simp; try with_reducible rfl)
  try simp only [Act.put, List.setIfInBounds_toArray, List.set_cons_zero, List.set_cons_succ]
  refine wpAnyH_take (i := 8) (oi := { dst := some 47, op := Op.move (Operand.tmp 7), type := 95, pos := "tree.go:77", after := #[], guard := none }) (v := ?_) rfl (by kernel_rfl) (by kernel_rfl) (by kernel_rfl) (fun _ _ _ h => h) (Or.inl ⟨by rfl, ?_⟩) hHeld ?_
  rotate_left
  · (intro w' hSw; (try dsimp only at hSw); go_simp; try with_reducible rfl)
  try simp only [Act.put, List.setIfInBounds_toArray, List.set_cons_zero, List.set_cons_succ]
  refine wpAnyH_take (i := 9) (oi := { dst := some 48, op := Op.nilCheck (Operand.tmp 47), type := 0, pos := "tree.go:77", after := #[{ on := 8, ground := Ground.data }], guard := none }) (v := ?_) rfl (by kernel_rfl) (by kernel_rfl) (by kernel_rfl) (fun _ _ _ h => h) (Or.inl ⟨by rfl, ?_⟩) hHeld ?_
  rotate_left
  · (intro w' hSw; (try dsimp only at hSw); go_simp; try with_reducible rfl)
  try simp only [Act.put, List.setIfInBounds_toArray, List.set_cons_zero, List.set_cons_succ]
  refine wpAnyH_take (i := 10) (oi := { dst := some 49, op := Op.fieldAddr 117 (Operand.tmp 48) 1, type := 0, pos := "tree.go:77", after := #[{ on := 9, ground := Ground.data }], guard := none }) (v := ?_) rfl (by kernel_rfl) (by kernel_rfl) (by kernel_rfl) (fun _ _ _ h => h) (Or.inl ⟨by rfl, ?_⟩) hHeld ?_
  rotate_left
  · (intro w' hSw; (try dsimp only at hSw); go_simp; try with_reducible rfl)
  try simp only [Act.put, List.setIfInBounds_toArray, List.set_cons_zero, List.set_cons_succ]
  refine wpAnyH_take (i := 11) (oi := { dst := some 50, op := Op.load 95 (Operand.tmp 49), type := 95, pos := "tree.go:77", after := #[{ on := 10, ground := Ground.data }], guard := none }) (v := ?_) rfl (by kernel_rfl) (by kernel_rfl) (by kernel_rfl) (fun _ _ _ h => h) (Or.inl ⟨by rfl, ?_⟩) hHeld ?_
  rotate_left
  · (intro w' hSw; (try dsimp only at hSw); go_simp; try with_reducible rfl)
  try simp only [Act.put, List.setIfInBounds_toArray, List.set_cons_zero, List.set_cons_succ]
  refine wpAnyH_take (i := 13) (oi := { dst := some 52, op := Op.move (Operand.tmp 7), type := 95, pos := "tree.go:77", after := #[], guard := none }) (v := ?_) rfl (by kernel_rfl) (by kernel_rfl) (by kernel_rfl) (fun _ _ _ h => h) (Or.inl ⟨by rfl, ?_⟩) hHeld ?_
  rotate_left
  · (intro w' hSw; (try dsimp only at hSw); go_simp; try with_reducible rfl)
  try simp only [Act.put, List.setIfInBounds_toArray, List.set_cons_zero, List.set_cons_succ]
  refine wpAnyH_take (i := 14) (oi := { dst := some 53, op := Op.nilCheck (Operand.tmp 52), type := 0, pos := "tree.go:77", after := #[{ on := 13, ground := Ground.data }], guard := none }) (v := ?_) rfl (by kernel_rfl) (by kernel_rfl) (by kernel_rfl) (fun _ _ _ h => h) (Or.inl ⟨by rfl, ?_⟩) hHeld ?_
  rotate_left
  · (intro w' hSw; (try dsimp only at hSw); go_simp; try with_reducible rfl)
  try simp only [Act.put, List.setIfInBounds_toArray, List.set_cons_zero, List.set_cons_succ]
  refine wpAnyH_take (i := 15) (oi := { dst := some 54, op := Op.fieldAddr 117 (Operand.tmp 53) 0, type := 0, pos := "tree.go:77", after := #[{ on := 14, ground := Ground.data }], guard := none }) (v := ?_) rfl (by kernel_rfl) (by kernel_rfl) (by kernel_rfl) (fun _ _ _ h => h) (Or.inl ⟨by rfl, ?_⟩) hHeld ?_
  rotate_left
  · (intro w' hSw; (try dsimp only at hSw); go_simp; try with_reducible rfl)
  try simp only [Act.put, List.setIfInBounds_toArray, List.set_cons_zero, List.set_cons_succ]
  refine wpAnyH_take (i := 16) (oi := { dst := some 55, op := Op.load 61 (Operand.tmp 54), type := 61, pos := "tree.go:77", after := #[{ on := 15, ground := Ground.data }], guard := none }) (v := ?_) rfl (by kernel_rfl) (by kernel_rfl) (by kernel_rfl) (fun _ _ _ h => h) (Or.inl ⟨by rfl, ?_⟩) hHeld ?_
  rotate_left
  · (intro w' hSw; (try dsimp only at hSw); go_simp; try with_reducible rfl)
  try simp only [Act.put, List.setIfInBounds_toArray, List.set_cons_zero, List.set_cons_succ]
  refine wpAnyH_take (i := 17) (oi := { dst := some 56, op := Op.move (Operand.tmp 7), type := 95, pos := "tree.go:77", after := #[], guard := none }) (v := ?_) rfl (by kernel_rfl) (by kernel_rfl) (by kernel_rfl) (fun _ _ _ h => h) (Or.inl ⟨by rfl, ?_⟩) hHeld ?_
  rotate_left
  · (intro w' hSw; (try dsimp only at hSw); go_simp; try with_reducible rfl)
  try simp only [Act.put, List.setIfInBounds_toArray, List.set_cons_zero, List.set_cons_succ]
  refine wpAnyH_take (i := 18) (oi := { dst := some 57, op := Op.nilCheck (Operand.tmp 56), type := 0, pos := "tree.go:77", after := #[{ on := 17, ground := Ground.data }], guard := none }) (v := ?_) rfl (by kernel_rfl) (by kernel_rfl) (by kernel_rfl) (fun _ _ _ h => h) (Or.inl ⟨by rfl, ?_⟩) hHeld ?_
  rotate_left
  · (intro w' hSw; (try dsimp only at hSw); go_simp; try with_reducible rfl)
  try simp only [Act.put, List.setIfInBounds_toArray, List.set_cons_zero, List.set_cons_succ]
  refine wpAnyH_take (i := 19) (oi := { dst := some 58, op := Op.fieldAddr 117 (Operand.tmp 57) 2, type := 0, pos := "tree.go:77", after := #[{ on := 18, ground := Ground.data }], guard := none }) (v := ?_) rfl (by kernel_rfl) (by kernel_rfl) (by kernel_rfl) (fun _ _ _ h => h) (Or.inl ⟨by rfl, ?_⟩) hHeld ?_
  rotate_left
  · (intro w' hSw; (try dsimp only at hSw); go_simp; try with_reducible rfl)
  try simp only [Act.put, List.setIfInBounds_toArray, List.set_cons_zero, List.set_cons_succ]
  refine wpAnyH_take (i := 20) (oi := { dst := some 59, op := Op.load 95 (Operand.tmp 58), type := 95, pos := "tree.go:77", after := #[{ on := 19, ground := Ground.data }], guard := none }) (v := ?_) rfl (by kernel_rfl) (by kernel_rfl) (by kernel_rfl) (fun _ _ _ h => h) (Or.inl ⟨by rfl, ?_⟩) hHeld ?_
  rotate_left
  · (intro w' hSw; (try dsimp only at hSw); go_simp; try with_reducible rfl)
  try simp only [Act.put, List.setIfInBounds_toArray, List.set_cons_zero, List.set_cons_succ]
  refine wpAnyH_take (i := 21) (oi := { dst := some 60, op := Op.move (Operand.tmp 1), type := 61, pos := "tree.go:77", after := #[], guard := none }) (v := ?_) rfl (by kernel_rfl) (by kernel_rfl) (by kernel_rfl) (fun _ _ _ h => h) (Or.inl ⟨by rfl, ?_⟩) hHeld ?_
  rotate_left
  · (intro w' hSw; (try dsimp only at hSw); go_simp; try with_reducible rfl)
  try simp only [Act.put, List.setIfInBounds_toArray, List.set_cons_zero, List.set_cons_succ]
  refine wpAnyH_take (i := 22) (oi := { dst := some 61, op := Op.move (Operand.tmp 2), type := 95, pos := "tree.go:77", after := #[], guard := none }) (v := ?_) rfl (by kernel_rfl) (by kernel_rfl) (by kernel_rfl) (fun _ _ _ h => h) (Or.inl ⟨by rfl, ?_⟩) hHeld ?_
  rotate_left
  · (intro w' hSw; (try dsimp only at hSw); go_simp; try with_reducible rfl)
  try simp only [Act.put, List.setIfInBounds_toArray, List.set_cons_zero, List.set_cons_succ]
  refine wpAnyH_ready (rs := [12]) (by kernel_rfl) (by simp) ?_
  refine AllReadyH.cons (o := { dst := some 51, op := Op.call { callee := Callee.value (Operand.func 50), args := #[Operand.tmp 42, Operand.tmp 46, Operand.tmp 50], argTypes := #[95, 61, 95] }, type := 95, pos := "tree.go:77", after := #[{ on := 3, ground := Ground.data }, { on := 7, ground := Ground.data }, { on := 11, ground := Ground.data }], guard := none }) rfl (fun K hK => ?_) AllReadyH.nil
  have hHold := hHeld
  clear hHeld
  go_simp
  have hcl := grownC (HX.out V0.drew (unhide GV0).drew).2.2.2.1 (HX.out V0.drew (unhide GV0).drew).2.2.2.2.1 xb xl (HX.out V0.drew (unhide GV0).drew).1 (by omega)
  refine hcl.mono ?_
  clear hcl
  rintro e V1 ⟨q1, i1, rfl, hq1, gV1, t1⟩
  have sV1 : V0.heap.size ≤ V1.heap.size := gV1.size
  have GV1 : Hid (Below W.heap.size W V1) := (unhide GV0).drew.trans (gV1.mono (by have := (unhide GV0).size; show W.heap.size ≤ V0.heap.size; omega))
  have kc : ∀ k o, k < V0.heap.size → V1.cell? ⟨k, o, none⟩ = V0.cell? ⟨k, o, none⟩ := fun k o hk => World.cell?_of_block (a := ⟨k, o, none⟩) (w := V0) (gV1.block k hk)
  have KEEP : V1.cell? ⟨tb, 0, none⟩ = some (.pointer (some ⟨xb, 0, none⟩)) ∧ V1.cell? ⟨tb, 1, none⟩ = some (.pointer np) ∧ V1.cell? ⟨tb, 2, none⟩ = some (.pointer (some ⟨ub, 0, none⟩)) ∧ V1.cell? ⟨ub, 0, none⟩ = some (.pointer (some ⟨yb, 0, none⟩)) ∧ V1.cell? ⟨ub, 1, none⟩ = some (.pointer ulp) ∧ V1.cell? ⟨ub, 2, none⟩ = some (.pointer urp) := ⟨(kc _ _ htl).trans KEEP.1, (kc _ _ htl).trans KEEP.2.1, (kc _ _ htl).trans KEEP.2.2.1, (kc _ _ hul').trans KEEP.2.2.2.1, (kc _ _ hul').trans KEEP.2.2.2.2.1, (kc _ _ hul').trans KEEP.2.2.2.2.2⟩
  have htl : tb < V1.heap.size := Nat.lt_of_lt_of_le htl sV1
  have hul' : ub < V1.heap.size := Nat.lt_of_lt_of_le hul' sV1
  clear kc
  go_wp2_with fail
  refine hK.out _ _ ?_ (fun hHeld => ?_)
  · ((try dsimp only); exact KEEP)
  clear hK K hHold
  try simp only [Act.put, List.setIfInBounds_toArray, List.set_cons_zero, List.set_cons_succ]
  refine wpAnyH_ready (rs := [23]) (by kernel_rfl) (by simp) ?_
  refine AllReadyH.cons (o := { dst := some 62, op := Op.call { callee := Callee.value (Operand.func 50), args := #[Operand.tmp 59, Operand.tmp 60, Operand.tmp 61], argTypes := #[95, 61, 95] }, type := 95, pos := "tree.go:77", after := #[{ on := 20, ground := Ground.data }, { on := 21, ground := Ground.data }, { on := 22, ground := Ground.data }, { on := 12, ground := Ground.chain }], guard := none }) rfl (fun K hK => ?_) AllReadyH.nil
  have hHold := hHeld
  clear hHeld
  go_simp
  have hcl := grownC (HX.out V1 (unhide GV1)).2.2.2.2.2.1 (HX.out V1 (unhide GV1)).2.2.2.2.2.2 eb pl (HX.out V1 (unhide GV1)).2.1 (by omega)
  refine hcl.mono ?_
  clear hcl
  rintro e V2 ⟨q2, i2, rfl, hq2, gV2, t2⟩
  have sV2 : V1.heap.size ≤ V2.heap.size := gV2.size
  have GV2 : Hid (Below W.heap.size W V2) := (unhide GV1).trans (gV2.mono (by have := (unhide GV1).size; show W.heap.size ≤ V1.heap.size; omega))
  have kc : ∀ k o, k < V1.heap.size → V2.cell? ⟨k, o, none⟩ = V1.cell? ⟨k, o, none⟩ := fun k o hk => World.cell?_of_block (a := ⟨k, o, none⟩) (w := V1) (gV2.block k hk)
  have KEEP : V2.cell? ⟨tb, 0, none⟩ = some (.pointer (some ⟨xb, 0, none⟩)) ∧ V2.cell? ⟨tb, 1, none⟩ = some (.pointer np) ∧ V2.cell? ⟨tb, 2, none⟩ = some (.pointer (some ⟨ub, 0, none⟩)) ∧ V2.cell? ⟨ub, 0, none⟩ = some (.pointer (some ⟨yb, 0, none⟩)) ∧ V2.cell? ⟨ub, 1, none⟩ = some (.pointer ulp) ∧ V2.cell? ⟨ub, 2, none⟩ = some (.pointer urp) := ⟨(kc _ _ htl).trans KEEP.1, (kc _ _ htl).trans KEEP.2.1, (kc _ _ htl).trans KEEP.2.2.1, (kc _ _ hul').trans KEEP.2.2.2.1, (kc _ _ hul').trans KEEP.2.2.2.2.1, (kc _ _ hul').trans KEEP.2.2.2.2.2⟩
  have htl : tb < V2.heap.size := Nat.lt_of_lt_of_le htl sV2
  have hul' : ub < V2.heap.size := Nat.lt_of_lt_of_le hul' sV2
  clear kc
  have t1 := t1.below gV2
  go_wp2_with fail
  refine hK.out _ _ ?_ (fun hHeld => ?_)
  · ((try dsimp only); exact KEEP)
  clear hK K hHold
  try simp only [Act.put, List.setIfInBounds_toArray, List.set_cons_zero, List.set_cons_succ]
  refine wpAnyH_ready (rs := [24]) (by kernel_rfl) (by simp) ?_
  refine AllReadyH.cons (o := { dst := some 63, op := Op.call { callee := Callee.value (Operand.func 50), args := #[Operand.tmp 51, Operand.tmp 55, Operand.tmp 62], argTypes := #[95, 61, 95] }, type := 95, pos := "tree.go:77", after := #[{ on := 12, ground := Ground.data }, { on := 16, ground := Ground.data }, { on := 23, ground := Ground.data }, { on := 23, ground := Ground.chain }], guard := none }) rfl (fun K hK => ?_) AllReadyH.nil
  have hHold := hHeld
  clear hHeld
  go_simp
  have hcl := grownC t1 t2 yb yl (HX.out V2 (unhide GV2)).2.2.1 (by simp only [List.length_append, List.length_cons]; omega)
  refine hcl.mono ?_
  clear hcl
  rintro e V3 ⟨q3, i3, rfl, hq3, gV3, t3⟩
  have sV3 : V2.heap.size ≤ V3.heap.size := gV3.size
  have GV3 : Hid (Below W.heap.size W V3) := (unhide GV2).trans (gV3.mono (by have := (unhide GV2).size; show W.heap.size ≤ V2.heap.size; omega))
  have kc : ∀ k o, k < V2.heap.size → V3.cell? ⟨k, o, none⟩ = V2.cell? ⟨k, o, none⟩ := fun k o hk => World.cell?_of_block (a := ⟨k, o, none⟩) (w := V2) (gV3.block k hk)
  have KEEP : V3.cell? ⟨tb, 0, none⟩ = some (.pointer (some ⟨xb, 0, none⟩)) ∧ V3.cell? ⟨tb, 1, none⟩ = some (.pointer np) ∧ V3.cell? ⟨tb, 2, none⟩ = some (.pointer (some ⟨ub, 0, none⟩)) ∧ V3.cell? ⟨ub, 0, none⟩ = some (.pointer (some ⟨yb, 0, none⟩)) ∧ V3.cell? ⟨ub, 1, none⟩ = some (.pointer ulp) ∧ V3.cell? ⟨ub, 2, none⟩ = some (.pointer urp) := ⟨(kc _ _ htl).trans KEEP.1, (kc _ _ htl).trans KEEP.2.1, (kc _ _ htl).trans KEEP.2.2.1, (kc _ _ hul').trans KEEP.2.2.2.1, (kc _ _ hul').trans KEEP.2.2.2.2.1, (kc _ _ hul').trans KEEP.2.2.2.2.2⟩
  have htl : tb < V3.heap.size := Nat.lt_of_lt_of_le htl sV3
  have hul' : ub < V3.heap.size := Nat.lt_of_lt_of_le hul' sV3
  clear kc
  go_wp2_with fail
  refine hK.out _ _ ?_ (fun hHeld => ?_)
  · ((try dsimp only); exact KEEP)
  clear hK K hHold
  try simp only [Act.put, List.setIfInBounds_toArray, List.set_cons_zero, List.set_cons_succ]
  refine wpAnyH_take (i := 25) (oi := { dst := some 6, op := Op.assign (Operand.tmp 63), type := 95, pos := "tree.go:77", after := #[{ on := 24, ground := Ground.data }, { on := 24, ground := Ground.chain }, { on := 0, ground := Ground.phase }, { on := 1, ground := Ground.phase }, { on := 2, ground := Ground.phase }, { on := 3, ground := Ground.phase }, { on := 4, ground := Ground.phase }, { on := 5, ground := Ground.phase }, { on := 6, ground := Ground.phase }, { on := 7, ground := Ground.phase }, { on := 8, ground := Ground.phase }, { on := 9, ground := Ground.phase }, { on := 10, ground := Ground.phase }, { on := 11, ground := Ground.phase }, { on := 12, ground := Ground.phase }, { on := 13, ground := Ground.phase }, { on := 14, ground := Ground.phase }, { on := 15, ground := Ground.phase }, { on := 16, ground := Ground.phase }, { on := 17, ground := Ground.phase }, { on := 18, ground := Ground.phase }, { on := 19, ground := Ground.phase }, { on := 20, ground := Ground.phase }, { on := 21, ground := Ground.phase }, { on := 22, ground := Ground.phase }, { on := 23, ground := Ground.phase }, { on := 24, ground := Ground.phase }], guard := none }) (v := ?_) rfl (by kernel_rfl) (by kernel_rfl) (by kernel_rfl) (fun _ _ _ h => h) (Or.inl ⟨by rfl, ?_⟩) hHeld ?_
  rotate_left
  · (intro w' hSw; (try dsimp only at hSw); go_simp; try with_reducible rfl)
  try simp only [Act.put, List.setIfInBounds_toArray, List.set_cons_zero, List.set_cons_succ]
  refine wpAnyH_done (by kernel_rfl) ?_ _
  refine NoPanic.normal ?_
  clear hHeld KEEP
  have HF : Hid (Below W.heap.size W V3 ∧ W.heap.size ≤ q3 ∧ TrL V3 (some ⟨q3, 0, none⟩) ((Ln ++ (xb, xl) :: (Lul ++ (yb, yl) :: Lur)) ++ (eb, pl) :: Lo) i3) := ⟨unhide GV3, by omega, by have h := t3; rw [show (Ln ++ (xb, xl) :: Lul) ++ (yb, yl) :: (Lur ++ (eb, pl) :: Lo) = (Ln ++ (xb, xl) :: (Lul ++ (yb, yl) :: Lur)) ++ (eb, pl) :: Lo by simp] at h; exact h⟩
  clear t1 t2 t3 gV1 gV2 gV3 GV0 GV1 GV2 GV3 HX
  go_wp2_with fail
  all_goals go_ret
  all_goals exact ⟨q3, i3, rfl, HF.out.2.1, HF.out.1, HF.out.2.2⟩
theorem leaningLeft_any {W : World} {tp op : Option Addr} {eb : Nat} {pl : Int} {Lt Lo : List (Nat × Int)} {ht ho : Int} (h1 : TrL W tp Lt ht) (h3 : TrL W op Lo ho) (he : W.cell? ⟨eb, 0, none⟩ = some (.int .i64 pl)) (hn : Lt.length + Lo.length < 4611686018427387900) (hc : 1 ≤ ht) : TreeC W 58 #[.pointer tp, .pointer (some ⟨eb, 0, none⟩), .pointer op] (Lt ++ (eb, pl) :: Lo) := by
  rcases h1.cases with ⟨_, _, rfl⟩ | ⟨tb, xb, xl, lp, rp, Ll, Lr, hl, hr, rfl, hb, hx, k1, k2, rfl, rfl⟩
  · omega
  · rw [len_cons] at hn
    by_cases hle : hr ≤ hl
    · exact leaningLeft_a hb hx he k1 k2 h3 (by omega) hle
    · rcases k2.cases with ⟨_, _, rfl⟩ | ⟨ub, yb, yl, ulp, urp, Lul, Lur, hul, hur, rfl, hu, hy, m1, m2, rfl, rfl⟩
      · have := k1.ht; omega
      · rw [len_cons] at hn
        exact leaningLeft_b hb hu hx hy he k1 m1 m2 h3 (by omega) (by omega)
set_option maxRecDepth 100000 in
set_option maxHeartbeats 4000000 in
theorem leaningRight_b {W : World} {tb xb eb ub yb : Nat} {xl pl ht yl : Int} {np ulp urp op : Option Addr} {Ln Lul Lur Lo : List (Nat × Int)} {hn hul hur ho : Int} (hb : W.heap[tb]? = some (.cells #[.pointer (some ⟨xb, 0, none⟩), .pointer (some ⟨ub, 0, none⟩), .pointer np, .int .i64 ht] 117 (0, 0))) (hu : W.heap[ub]? = some (.cells #[.pointer (some ⟨yb, 0, none⟩), .pointer ulp, .pointer urp, .int .i64 (max hul hur + 1)] 117 (0, 0))) (hx : W.cell? ⟨xb, 0, none⟩ = some (.int .i64 xl)) (hy : W.cell? ⟨yb, 0, none⟩ = some (.int .i64 yl)) (he : W.cell? ⟨eb, 0, none⟩ = some (.int .i64 pl)) (h1 : TrL W np Ln hn) (h2 : TrL W ulp Lul hul) (h4 : TrL W urp Lur hur) (h3 : TrL W op Lo ho) (hnn : Ln.length + Lul.length + Lur.length + Lo.length < 4611686018427387900) (hc : hn < max hul hur + 1) :
    TreeC W 59 #[.pointer op, .pointer (some ⟨eb, 0, none⟩), .pointer (some ⟨tb, 0, none⟩)] (Lo ++ (eb, pl) :: ((Lul ++ (yb, yl) :: Lur) ++ (xb, xl) :: Ln)) := by
  unfold TreeC
  have htl := cell_in (node_cells hb).1
  have hul' := cell_in (node_cells hu).1
  have hxl := cell_in hx
  have hyl := cell_in hy
  have hel := cell_in he
  have GW : Hid (Below W.heap.size W W) := Below.refl _ _
  have HX : Hid (∀ V, Below W.heap.size W V → V.cell? ⟨xb, 0, none⟩ = some (.int .i64 xl) ∧ V.cell? ⟨eb, 0, none⟩ = some (.int .i64 pl) ∧ V.cell? ⟨yb, 0, none⟩ = some (.int .i64 yl) ∧ TrL V np Ln hn ∧ TrL V ulp Lul hul ∧ TrL V urp Lur hur ∧ TrL V op Lo ho) := fun V hV => ⟨(hV.cell (p := ⟨xb, 0, none⟩) hxl).trans hx, (hV.cell (p := ⟨eb, 0, none⟩) hel).trans he, (hV.cell (p := ⟨yb, 0, none⟩) hyl).trans hy, h1.below hV, h2.below hV, h4.below hV, h3.below hV⟩
  obtain ⟨n0, n1, n2, -⟩ := node_cells hb
  obtain ⟨u0, u1, u2, -⟩ := node_cells hu
  have HTN : Hid (∀ V, Below W.heap.size W V → Calls Try.prog 57 #[.pointer np] V fun e V' => e = .returned (.int .i64 hn) ∧ V' = V) := fun V hV => tall_any (h1.below hV).tall
  have HTF : Hid (∀ V, Below W.heap.size W V → Calls Try.prog 57 #[.pointer (some ⟨ub, 0, none⟩)] V fun e V' => e = .returned (.int .i64 (max hul hur + 1)) ∧ V' = V) := fun V hV => tall_any ((h2.node h4 hu hy).below hV).tall
  generalize max hul hur + 1 = uh at *
  clear hb hu hx hy he h1 h2 h3 h4
  go_enter Try.func59, Try.ntmps59
  go_wp2_with fail
  have KEEP : W.cell? ⟨tb, 0, none⟩ = some (.pointer (some ⟨xb, 0, none⟩)) ∧ W.cell? ⟨tb, 1, none⟩ = some (.pointer (some ⟨ub, 0, none⟩)) ∧ W.cell? ⟨tb, 2, none⟩ = some (.pointer np) := ⟨n0, n1, n2⟩
  refine wp_region_noPanic ?_
  refine wp_region_held_drew (S := (fun w' => w'.cell? ⟨tb, 0, none⟩ = some (.pointer (some ⟨xb, 0, none⟩)) ∧ w'.cell? ⟨tb, 1, none⟩ = some (.pointer (some ⟨ub, 0, none⟩)) ∧ w'.cell? ⟨tb, 2, none⟩ = some (.pointer np))) (by kernel_rfl) ?_ (fun hHeld => ?_)
  · exact KEEP
  refine wpAnyH_take (i := 0) (oi := { dst := some 8, op := Op.move (Operand.tmp 2), type := 95, pos := "tree.go:81", after := #[], guard := none }) (v := ?_) rfl (by kernel_rfl) (by kernel_rfl) (by kernel_rfl) (fun _ _ _ h => h) (Or.inl ⟨by rfl, ?_⟩) hHeld ?_
  rotate_left
  · (intro w' hSw; (try dsimp only at hSw); go_simp; try with_reducible rfl)
  try simp only [Act.put, List.setIfInBounds_toArray, List.set_cons_zero, List.set_cons_succ]
  refine wpAnyH_take (i := 1) (oi := { dst := some 9, op := Op.nilCheck (Operand.tmp 8), type := 0, pos := "tree.go:81", after := #[{ on := 0, ground := Ground.data }], guard := none }) (v := ?_) rfl (by kernel_rfl) (by kernel_rfl) (by kernel_rfl) (fun _ _ _ h => h) (Or.inl ⟨by rfl, ?_⟩) hHeld ?_
  rotate_left
  · (intro w' hSw; (try dsimp only at hSw); go_simp; try with_reducible rfl)
  try simp only [Act.put, List.setIfInBounds_toArray, List.set_cons_zero, List.set_cons_succ]
  refine wpAnyH_take (i := 2) (oi := { dst := some 10, op := Op.fieldAddr 117 (Operand.tmp 9) 2, type := 0, pos := "tree.go:81", after := #[{ on := 1, ground := Ground.data }], guard := none }) (v := ?_) rfl (by kernel_rfl) (by kernel_rfl) (by kernel_rfl) (fun _ _ _ h => h) (Or.inl ⟨by rfl, ?_⟩) hHeld ?_
  rotate_left
  · (intro w' hSw; (try dsimp only at hSw); go_simp; try with_reducible rfl)
  try simp only [Act.put, List.setIfInBounds_toArray, List.set_cons_zero, List.set_cons_succ]
  refine wpAnyH_take (i := 3) (oi := { dst := some 11, op := Op.load 95 (Operand.tmp 10), type := 95, pos := "tree.go:81", after := #[{ on := 2, ground := Ground.data }], guard := none }) (v := ?_) rfl (by kernel_rfl) (by kernel_rfl) (by kernel_rfl) (fun _ _ _ h => h) (Or.inl ⟨by rfl, ?_⟩) hHeld ?_
  rotate_left
  · (intro w' hSw; (try dsimp only at hSw); go_simp; try with_reducible rfl)
  try simp only [Act.put, List.setIfInBounds_toArray, List.set_cons_zero, List.set_cons_succ]
  refine wpAnyH_take (i := 5) (oi := { dst := some 13, op := Op.move (Operand.tmp 2), type := 95, pos := "tree.go:81", after := #[], guard := none }) (v := ?_) rfl (by kernel_rfl) (by kernel_rfl) (by kernel_rfl) (fun _ _ _ h => h) (Or.inl ⟨by rfl, ?_⟩) hHeld ?_
  rotate_left
  · (intro w' hSw; (try dsimp only at hSw); go_simp; try with_reducible rfl)
  try simp only [Act.put, List.setIfInBounds_toArray, List.set_cons_zero, List.set_cons_succ]
  refine wpAnyH_take (i := 6) (oi := { dst := some 14, op := Op.nilCheck (Operand.tmp 13), type := 0, pos := "tree.go:81", after := #[{ on := 5, ground := Ground.data }], guard := none }) (v := ?_) rfl (by kernel_rfl) (by kernel_rfl) (by kernel_rfl) (fun _ _ _ h => h) (Or.inl ⟨by rfl, ?_⟩) hHeld ?_
  rotate_left
  · (intro w' hSw; (try dsimp only at hSw); go_simp; try with_reducible rfl)
  try simp only [Act.put, List.setIfInBounds_toArray, List.set_cons_zero, List.set_cons_succ]
  refine wpAnyH_take (i := 7) (oi := { dst := some 15, op := Op.fieldAddr 117 (Operand.tmp 14) 1, type := 0, pos := "tree.go:81", after := #[{ on := 6, ground := Ground.data }], guard := none }) (v := ?_) rfl (by kernel_rfl) (by kernel_rfl) (by kernel_rfl) (fun _ _ _ h => h) (Or.inl ⟨by rfl, ?_⟩) hHeld ?_
  rotate_left
  · (intro w' hSw; (try dsimp only at hSw); go_simp; try with_reducible rfl)
  try simp only [Act.put, List.setIfInBounds_toArray, List.set_cons_zero, List.set_cons_succ]
  refine wpAnyH_take (i := 8) (oi := { dst := some 16, op := Op.load 95 (Operand.tmp 15), type := 95, pos := "tree.go:81", after := #[{ on := 7, ground := Ground.data }], guard := none }) (v := ?_) rfl (by kernel_rfl) (by kernel_rfl) (by kernel_rfl) (fun _ _ _ h => h) (Or.inl ⟨by rfl, ?_⟩) hHeld ?_
  rotate_left
  · (intro w' hSw; (try dsimp only at hSw); go_simp; try with_reducible rfl)
  try simp only [Act.put, List.setIfInBounds_toArray, List.set_cons_zero, List.set_cons_succ]
  refine wpAnyH_ready (rs := [4]) (by kernel_rfl) (by simp) ?_
  refine AllReadyH.cons (o := { dst := some 12, op := Op.call { callee := Callee.value (Operand.func 57), args := #[Operand.tmp 11], argTypes := #[95] }, type := 3, pos := "tree.go:81", after := #[{ on := 3, ground := Ground.data }], guard := none }) rfl (fun K hK => ?_) AllReadyH.nil
  have hHold := hHeld
  clear hHeld
  go_simp
  refine (HTN.out W.drew (unhide GW).drew).mono ?_
  rintro e V1 ⟨rfl, rfl⟩
  go_wp2_with fail
  refine hK.out _ _ ?_ (fun hHeld => ?_)
  · ((try dsimp only); exact KEEP)
  clear hK K hHold
  try simp only [Act.put, List.setIfInBounds_toArray, List.set_cons_zero, List.set_cons_succ]
  refine wpAnyH_ready (rs := [9]) (by kernel_rfl) (by simp) ?_
  refine AllReadyH.cons (o := { dst := some 17, op := Op.call { callee := Callee.value (Operand.func 57), args := #[Operand.tmp 16], argTypes := #[95] }, type := 3, pos := "tree.go:81", after := #[{ on := 8, ground := Ground.data }, { on := 4, ground := Ground.chain }], guard := none }) rfl (fun K hK => ?_) AllReadyH.nil
  have hHold := hHeld
  clear hHeld
  go_simp
  refine (HTF.out W.drew (unhide GW).drew).mono ?_
  rintro e V1 ⟨rfl, rfl⟩
  go_wp2_with fail
  refine hK.out _ _ ?_ (fun hHeld => ?_)
  · ((try dsimp only); exact KEEP)
  clear hK K hHold
  try simp only [Act.put, List.setIfInBounds_toArray, List.set_cons_zero, List.set_cons_succ]
  refine wpAnyH_take (i := 10) (oi := { dst := some 18, op := Op.binOp BinOp.geq 3 (Operand.tmp 12) (Operand.tmp 17) 3, type := 4, pos := "tree.go:81", after := #[{ on := 4, ground := Ground.data }, { on := 9, ground := Ground.data }], guard := none }) (v := ?_) rfl (by kernel_rfl) (by kernel_rfl) (by kernel_rfl) (fun _ _ _ h => h) (Or.inl ⟨by rfl, ?_⟩) hHeld ?_
  rotate_left
  · (intro w' hSw; (try dsimp only at hSw); go_simp; try with_reducible rfl)
  try simp only [Act.put, List.setIfInBounds_toArray, List.set_cons_zero, List.set_cons_succ]
  refine wpAnyH_done (by kernel_rfl) ?_ _
  refine NoPanic.normal ?_
  clear hHeld KEEP HTN HTF
  have WD : Hid (Below W.heap.size W W.drew) := (Below.refl _ W).drew
  obtain ⟨V0, hV0⟩ : ∃ V0, W.drew = V0 := ⟨_, rfl⟩
  have s0 : V0.heap.size = W.heap.size := by rw [← hV0]; rfl
  rw [hV0] at WD
  have GV0 : Hid (Below W.heap.size W V0) := WD.out
  rw [hV0]
  clear WD
  have m0 : V0.cell? ⟨tb, 0, none⟩ = some (.pointer (some ⟨xb, 0, none⟩)) := ((unhide GV0).cell (p := ⟨tb, 0, none⟩) htl).trans n0
  have m1 : V0.cell? ⟨tb, 1, none⟩ = some (.pointer (some ⟨ub, 0, none⟩)) := ((unhide GV0).cell (p := ⟨tb, 1, none⟩) htl).trans n1
  have m2 : V0.cell? ⟨tb, 2, none⟩ = some (.pointer np) := ((unhide GV0).cell (p := ⟨tb, 2, none⟩) htl).trans n2
  have w0 : V0.cell? ⟨ub, 0, none⟩ = some (.pointer (some ⟨yb, 0, none⟩)) := ((unhide GV0).cell (p := ⟨ub, 0, none⟩) hul').trans u0
  have w1 : V0.cell? ⟨ub, 1, none⟩ = some (.pointer ulp) := ((unhide GV0).cell (p := ⟨ub, 1, none⟩) hul').trans u1
  have w2 : V0.cell? ⟨ub, 2, none⟩ = some (.pointer urp) := ((unhide GV0).cell (p := ⟨ub, 2, none⟩) hul').trans u2
  clear n0 n1 n2 u0 u1 u2 hV0
  replace htl : tb < V0.heap.size := by omega
  replace hul' : ub < V0.heap.size := by omega
  have hge : ¬ (hn ≥ uh) := by omega
  clear hc
  go_wp2_with fail
  have KEEP : V0.cell? ⟨tb, 0, none⟩ = some (.pointer (some ⟨xb, 0, none⟩)) ∧ V0.cell? ⟨tb, 1, none⟩ = some (.pointer (some ⟨ub, 0, none⟩)) ∧ V0.cell? ⟨tb, 2, none⟩ = some (.pointer np) ∧ V0.cell? ⟨ub, 0, none⟩ = some (.pointer (some ⟨yb, 0, none⟩)) ∧ V0.cell? ⟨ub, 1, none⟩ = some (.pointer ulp) ∧ V0.cell? ⟨ub, 2, none⟩ = some (.pointer urp) := ⟨m0, m1, m2, w0, w1, w2⟩
  refine wp_region_noPanic ?_
  refine wp_region_held_drew (S := (fun w' => w'.cell? ⟨tb, 0, none⟩ = some (.pointer (some ⟨xb, 0, none⟩)) ∧ w'.cell? ⟨tb, 1, none⟩ = some (.pointer (some ⟨ub, 0, none⟩)) ∧ w'.cell? ⟨tb, 2, none⟩ = some (.pointer np) ∧ w'.cell? ⟨ub, 0, none⟩ = some (.pointer (some ⟨yb, 0, none⟩)) ∧ w'.cell? ⟨ub, 1, none⟩ = some (.pointer ulp) ∧ w'.cell? ⟨ub, 2, none⟩ = some (.pointer urp))) (by kernel_rfl) ?_ (fun hHeld => ?_)
  · exact KEEP
  refine wpAnyH_take (i := 0) (oi := { dst := some 39, op := Op.move (Operand.tmp 0), type := 95, pos := "tree.go:85", after := #[], guard := none }) (v := ?_) rfl (by kernel_rfl) (by kernel_rfl) (by kernel_rfl) (fun _ _ _ h => h) (Or.inl ⟨by rfl, ?_⟩) hHeld ?_
  rotate_left
  · (intro w' hSw; (try dsimp only at hSw); go_simp; try with_reducible rfl)
  try simp only [Act.put, List.setIfInBounds_toArray, List.set_cons_zero, List.set_cons_succ]
  refine wpAnyH_take (i := 1) (oi := { dst := some 40, op := Op.move (Operand.tmp 1), type := 61, pos := "tree.go:85", after := #[], guard := none }) (v := ?_) rfl (by kernel_rfl) (by kernel_rfl) (by kernel_rfl) (fun _ _ _ h => h) (Or.inl ⟨by rfl, ?_⟩) hHeld ?_
  rotate_left
  · (intro w' hSw; (try dsimp only at hSw); go_simp; try with_reducible rfl)
  try simp only [Act.put, List.setIfInBounds_toArray, List.set_cons_zero, List.set_cons_succ]
  refine wpAnyH_take (i := 2) (oi := { dst := some 41, op := Op.move (Operand.tmp 7), type := 95, pos := "tree.go:85", after := #[], guard := none }) (v := ?_) rfl (by kernel_rfl) (by kernel_rfl) (by kernel_rfl) (fun _ _ _ h => h) (Or.inl ⟨by rfl, ?_⟩) hHeld ?_
  rotate_left
  · (intro w' hSw; (try dsimp only at hSw); go_simp; try with_reducible rfl)
  try simp only [Act.put, List.setIfInBounds_toArray, List.set_cons_zero, List.set_cons_succ]
  refine wpAnyH_take (i := 3) (oi := { dst := some 42, op := Op.nilCheck (Operand.tmp 41), type := 0, pos := "tree.go:85", after := #[{ on := 2, ground := Ground.data }], guard := none }) (v := ?_) rfl (by kernel_rfl) (by kernel_rfl) (by kernel_rfl) (fun _ _ _ h => h) (Or.inl ⟨by rfl, ?_⟩) hHeld ?_
  rotate_left
  · (intro w' hSw; (try dsimp only at hSw); go_simp; try with_reducible rfl)
  try simp only [Act.put, List.setIfInBounds_toArray, List.set_cons_zero, List.set_cons_succ]
  refine wpAnyH_take (i := 4) (oi := { dst := some 43, op := Op.fieldAddr 117 (Operand.tmp 42) 1, type := 0, pos := "tree.go:85", after := #[{ on := 3, ground := Ground.data }], guard := none }) (v := ?_) rfl (by kernel_rfl) (by kernel_rfl) (by kernel_rfl) (fun _ _ _ h => h) (Or.inl ⟨by rfl, ?_⟩) hHeld ?_
  rotate_left
  · (intro w' hSw; (try dsimp only at hSw); go_simp; try with_reducible rfl)
  try simp only [Act.put, List.setIfInBounds_toArray, List.set_cons_zero, List.set_cons_succ]
  refine wpAnyH_take (i := 5) (oi := { dst := some 44, op := Op.load 95 (Operand.tmp 43), type := 95, pos := "tree.go:85", after := #[{ on := 4, ground := Ground.data }], guard := none }) (v := ?_) rfl (by kernel_rfl) (by kernel_rfl) (by kernel_rfl) (fun _ _ _ h => h) (Or.inl ⟨by rfl, ?_⟩) hHeld ?_
  rotate_left
  · (intro w' hSw; (try dsimp only at hSw); go_simp; try with_reducible rfl)
  try simp only [Act.put, List.setIfInBounds_toArray, List.set_cons_zero, List.set_cons_succ]
  refine wpAnyH_take (i := 7) (oi := { dst := some 46, op := Op.move (Operand.tmp 7), type := 95, pos := "tree.go:85", after := #[], guard := none }) (v := ?_) rfl (by kernel_rfl) (by kernel_rfl) (by kernel_rfl) (fun _ _ _ h => h) (Or.inl ⟨by rfl, ?_⟩) hHeld ?_
  rotate_left
  · (intro w' hSw; (try dsimp only at hSw); go_simp; try with_reducible rfl)
  try simp only [Act.put, List.setIfInBounds_toArray, List.set_cons_zero, List.set_cons_succ]
  refine wpAnyH_take (i := 8) (oi := { dst := some 47, op := Op.nilCheck (Operand.tmp 46), type := 0, pos := "tree.go:85", after := #[{ on := 7, ground := Ground.data }], guard := none }) (v := ?_) rfl (by kernel_rfl) (by kernel_rfl) (by kernel_rfl) (fun _ _ _ h => h) (Or.inl ⟨by rfl, ?_⟩) hHeld ?_
  rotate_left
  · (intro w' hSw; (try dsimp only at hSw); go_simp; try with_reducible rfl)
  try simp only [Act.put, List.setIfInBounds_toArray, List.set_cons_zero, List.set_cons_succ]
  refine wpAnyH_take (i := 9) (oi := { dst := some 48, op := Op.fieldAddr 117 (Operand.tmp 47) 0, type := 0, pos := "tree.go:85", after := #[{ on := 8, ground := Ground.data }], guard := none }) (v := ?_) rfl (by kernel_rfl) (by kernel_rfl) (by kernel_rfl) (fun _ _ _ h => h) (Or.inl ⟨by rfl, ?_⟩) hHeld ?_
  rotate_left
  · (intro w' hSw; (try dsimp only at hSw); go_simp; try with_reducible rfl)
  try simp only [Act.put, List.setIfInBounds_toArray, List.set_cons_zero, List.set_cons_succ]
  refine wpAnyH_take (i := 10) (oi := { dst := some 49, op := Op.load 61 (Operand.tmp 48), type := 61, pos := "tree.go:85", after := #[{ on := 9, ground := Ground.data }], guard := none }) (v := ?_) rfl (by kernel_rfl) (by kernel_rfl) (by kernel_rfl) (fun _ _ _ h => h) (Or.inl ⟨by rfl, ?_⟩) hHeld ?_
  rotate_left
  · (intro w' hSw; (try dsimp only at hSw); go_simp; try with_reducible rfl)
  try simp only [Act.put, List.setIfInBounds_toArray, List.set_cons_zero, List.set_cons_succ]
  refine wpAnyH_take (i := 11) (oi := { dst := some 50, op := Op.move (Operand.tmp 7), type := 95, pos := "tree.go:85", after := #[], guard := none }) (v := ?_) rfl (by kernel_rfl) (by kernel_rfl) (by kernel_rfl) (fun _ _ _ h => h) (Or.inl ⟨by rfl, ?_⟩) hHeld ?_
  rotate_left
  · (intro w' hSw; (try dsimp only at hSw); go_simp; try with_reducible rfl)
  try simp only [Act.put, List.setIfInBounds_toArray, List.set_cons_zero, List.set_cons_succ]
  refine wpAnyH_take (i := 12) (oi := { dst := some 51, op := Op.nilCheck (Operand.tmp 50), type := 0, pos := "tree.go:85", after := #[{ on := 11, ground := Ground.data }], guard := none }) (v := ?_) rfl (by kernel_rfl) (by kernel_rfl) (by kernel_rfl) (fun _ _ _ h => h) (Or.inl ⟨by rfl, ?_⟩) hHeld ?_
  rotate_left
  · (intro w' hSw; (try dsimp only at hSw); go_simp; try with_reducible rfl)
  try simp only [Act.put, List.setIfInBounds_toArray, List.set_cons_zero, List.set_cons_succ]
  refine wpAnyH_take (i := 13) (oi := { dst := some 52, op := Op.fieldAddr 117 (Operand.tmp 51) 2, type := 0, pos := "tree.go:85", after := #[{ on := 12, ground := Ground.data }], guard := none }) (v := ?_) rfl (by kernel_rfl) (by kernel_rfl) (by kernel_rfl) (fun _ _ _ h => h) (Or.inl ⟨by rfl, ?_⟩) hHeld ?_
  rotate_left
  · (intro w' hSw; (try dsimp only at hSw); go_simp; try with_reducible rfl)
  try simp only [Act.put, List.setIfInBounds_toArray, List.set_cons_zero, List.set_cons_succ]
  refine wpAnyH_take (i := 14) (oi := { dst := some 53, op := Op.load 95 (Operand.tmp 52), type := 95, pos := "tree.go:85", after := #[{ on := 13, ground := Ground.data }], guard := none }) (v := ?_) rfl (by kernel_rfl) (by kernel_rfl) (by kernel_rfl) (fun _ _ _ h => h) (Or.inl ⟨by rfl, ?_⟩) hHeld ?_
  rotate_left
  · (intro w' hSw; (try dsimp only at hSw); go_simp; try with_reducible rfl)
  try simp only [Act.put, List.setIfInBounds_toArray, List.set_cons_zero, List.set_cons_succ]
  refine wpAnyH_take (i := 15) (oi := { dst := some 54, op := Op.move (Operand.tmp 2), type := 95, pos := "tree.go:85", after := #[], guard := none }) (v := ?_) rfl (by kernel_rfl) (by kernel_rfl) (by kernel_rfl) (fun _ _ _ h => h) (Or.inl ⟨by rfl, ?_⟩) hHeld ?_
  rotate_left
  · (intro w' hSw; (try dsimp only at hSw); go_simp; try with_reducible rfl)
  try simp only [Act.put, List.setIfInBounds_toArray, List.set_cons_zero, List.set_cons_succ]
  refine wpAnyH_take (i := 16) (oi := { dst := some 55, op := Op.nilCheck (Operand.tmp 54), type := 0, pos := "tree.go:85", after := #[{ on := 15, ground := Ground.data }], guard := none }) (v := ?_) rfl (by kernel_rfl) (by kernel_rfl) (by kernel_rfl) (fun _ _ _ h => h) (Or.inl ⟨by rfl, ?_⟩) hHeld ?_
  rotate_left
  · (intro w' hSw; (try dsimp only at hSw); go_simp; try with_reducible rfl)
  try simp only [Act.put, List.setIfInBounds_toArray, List.set_cons_zero, List.set_cons_succ]
  refine wpAnyH_take (i := 17) (oi := { dst := some 56, op := Op.fieldAddr 117 (Operand.tmp 55) 0, type := 0, pos := "tree.go:85", after := #[{ on := 16, ground := Ground.data }], guard := none }) (v := ?_) rfl (by kernel_rfl) (by kernel_rfl) (by kernel_rfl) (fun _ _ _ h => h) (Or.inl ⟨by rfl, ?_⟩) hHeld ?_
  rotate_left
  · (intro w' hSw; (try dsimp only at hSw); go_simp; try with_reducible rfl)
  try simp only [Act.put, List.setIfInBounds_toArray, List.set_cons_zero, List.set_cons_succ]
  refine wpAnyH_take (i := 18) (oi := { dst := some 57, op := Op.load 61 (Operand.tmp 56), type := 61, pos := "tree.go:85", after := #[{ on := 17, ground := Ground.data }], guard := none }) (v := ?_) rfl (by kernel_rfl) (by kernel_rfl) (by kernel_rfl) (fun _ _ _ h => h) (Or.inl ⟨by rfl, ?_⟩) hHeld ?_
  rotate_left
  · (intro w' hSw; (try dsimp only at hSw); go_simp; try with_reducible rfl)
  try simp only [Act.put, List.setIfInBounds_toArray, List.set_cons_zero, List.set_cons_succ]
  refine wpAnyH_take (i := 19) (oi := { dst := some 58, op := Op.move (Operand.tmp 2), type := 95, pos := "tree.go:85", after := #[], guard := none }) (v := ?_) rfl (by kernel_rfl) (by kernel_rfl) (by kernel_rfl) (fun _ _ _ h => h) (Or.inl ⟨by rfl, ?_⟩) hHeld ?_
  rotate_left
  · (intro w' hSw; (try dsimp only at hSw); go_simp; try with_reducible rfl)
  try simp only [Act.put, List.setIfInBounds_toArray, List.set_cons_zero, List.set_cons_succ]
  refine wpAnyH_take (i := 20) (oi := { dst := some 59, op := Op.nilCheck (Operand.tmp 58), type := 0, pos := "tree.go:85", after := #[{ on := 19, ground := Ground.data }], guard := none }) (v := ?_) rfl (by kernel_rfl) (by kernel_rfl) (by kernel_rfl) (fun _ _ _ h => h) (Or.inl ⟨by rfl, ?_⟩) hHeld ?_
  rotate_left
  · (intro w' hSw; (try dsimp only at hSw); go_simp; try with_reducible rfl)
  try simp only [Act.put, List.setIfInBounds_toArray, List.set_cons_zero, List.set_cons_succ]
  refine wpAnyH_take (i := 21) (oi := { dst := some 60, op := Op.fieldAddr 117 (Operand.tmp 59) 2, type := 0, pos := "tree.go:85", after := #[{ on := 20, ground := Ground.data }], guard := none }) (v := ?_) rfl (by kernel_rfl) (by kernel_rfl) (by kernel_rfl) (fun _ _ _ h => h) (Or.inl ⟨by rfl, ?_⟩) hHeld ?_
  rotate_left
  · (intro w' hSw; (try dsimp only at hSw); go_simp; try with_reducible rfl)
  try simp only [Act.put, List.setIfInBounds_toArray, List.set_cons_zero, List.set_cons_succ]
  refine wpAnyH_take (i := 22) (oi := { dst := some 61, op := Op.load 95 (Operand.tmp 60), type := 95, pos := "tree.go:85", after := #[{ on := 21, ground := Ground.data }], guard := none }) (v := ?_) rfl (by kernel_rfl) (by kernel_rfl) (by kernel_rfl) (fun _ _ _ h => h) (Or.inl ⟨by rfl, ?_⟩) hHeld ?_
  rotate_left
  · (intro w' hSw; (try dsimp only at hSw); go_simp; try with_reducible rfl)
  try simp only [Act.put, List.setIfInBounds_toArray, List.set_cons_zero, List.set_cons_succ]
  refine wpAnyH_ready (rs := [6]) (by kernel_rfl) (by simp) ?_
  refine AllReadyH.cons (o := { dst := some 45, op := Op.call { callee := Callee.value (Operand.func 50), args := #[Operand.tmp 39, Operand.tmp 40, Operand.tmp 44], argTypes := #[95, 61, 95] }, type := 95, pos := "tree.go:85", after := #[{ on := 0, ground := Ground.data }, { on := 1, ground := Ground.data }, { on := 5, ground := Ground.data }], guard := none }) rfl (fun K hK => ?_) AllReadyH.nil
  have hHold := hHeld
  clear hHeld
  go_simp
  have hcl := grownC (HX.out V0.drew (unhide GV0).drew).2.2.2.2.2.2 (HX.out V0.drew (unhide GV0).drew).2.2.2.2.1 eb pl (HX.out V0.drew (unhide GV0).drew).2.1 (by omega)
  refine hcl.mono ?_
  clear hcl
  rintro e V1 ⟨q1, i1, rfl, hq1, gV1, t1⟩
  have sV1 : V0.heap.size ≤ V1.heap.size := gV1.size
  have GV1 : Hid (Below W.heap.size W V1) := (unhide GV0).drew.trans (gV1.mono (by have := (unhide GV0).size; show W.heap.size ≤ V0.heap.size; omega))
  have kc : ∀ k o, k < V0.heap.size → V1.cell? ⟨k, o, none⟩ = V0.cell? ⟨k, o, none⟩ := fun k o hk => World.cell?_of_block (a := ⟨k, o, none⟩) (w := V0) (gV1.block k hk)
  have KEEP : V1.cell? ⟨tb, 0, none⟩ = some (.pointer (some ⟨xb, 0, none⟩)) ∧ V1.cell? ⟨tb, 1, none⟩ = some (.pointer (some ⟨ub, 0, none⟩)) ∧ V1.cell? ⟨tb, 2, none⟩ = some (.pointer np) ∧ V1.cell? ⟨ub, 0, none⟩ = some (.pointer (some ⟨yb, 0, none⟩)) ∧ V1.cell? ⟨ub, 1, none⟩ = some (.pointer ulp) ∧ V1.cell? ⟨ub, 2, none⟩ = some (.pointer urp) := ⟨(kc _ _ htl).trans KEEP.1, (kc _ _ htl).trans KEEP.2.1, (kc _ _ htl).trans KEEP.2.2.1, (kc _ _ hul').trans KEEP.2.2.2.1, (kc _ _ hul').trans KEEP.2.2.2.2.1, (kc _ _ hul').trans KEEP.2.2.2.2.2⟩
  have htl : tb < V1.heap.size := Nat.lt_of_lt_of_le htl sV1
  have hul' : ub < V1.heap.size := Nat.lt_of_lt_of_le hul' sV1
  clear kc
  go_wp2_with fail
  refine hK.out _ _ ?_ (fun hHeld => ?_)
  · ((try dsimp only); exact KEEP)
  clear hK K hHold
  try simp only [Act.put, List.setIfInBounds_toArray, List.set_cons_zero, List.set_cons_succ]
  refine wpAnyH_ready (rs := [23]) (by kernel_rfl) (by simp) ?_
  refine AllReadyH.cons (o := { dst := some 62, op := Op.call { callee := Callee.value (Operand.func 50), args := #[Operand.tmp 53, Operand.tmp 57, Operand.tmp 61], argTypes := #[95, 61, 95] }, type := 95, pos := "tree.go:85", after := #[{ on := 14, ground := Ground.data }, { on := 18, ground := Ground.data }, { on := 22, ground := Ground.data }, { on := 6, ground := Ground.chain }], guard := none }) rfl (fun K hK => ?_) AllReadyH.nil
  have hHold := hHeld
  clear hHeld
  go_simp
  have hcl := grownC (HX.out V1 (unhide GV1)).2.2.2.2.2.1 (HX.out V1 (unhide GV1)).2.2.2.1 xb xl (HX.out V1 (unhide GV1)).1 (by omega)
  refine hcl.mono ?_
  clear hcl
  rintro e V2 ⟨q2, i2, rfl, hq2, gV2, t2⟩
  have sV2 : V1.heap.size ≤ V2.heap.size := gV2.size
  have GV2 : Hid (Below W.heap.size W V2) := (unhide GV1).trans (gV2.mono (by have := (unhide GV1).size; show W.heap.size ≤ V1.heap.size; omega))
  have kc : ∀ k o, k < V1.heap.size → V2.cell? ⟨k, o, none⟩ = V1.cell? ⟨k, o, none⟩ := fun k o hk => World.cell?_of_block (a := ⟨k, o, none⟩) (w := V1) (gV2.block k hk)
  have KEEP : V2.cell? ⟨tb, 0, none⟩ = some (.pointer (some ⟨xb, 0, none⟩)) ∧ V2.cell? ⟨tb, 1, none⟩ = some (.pointer (some ⟨ub, 0, none⟩)) ∧ V2.cell? ⟨tb, 2, none⟩ = some (.pointer np) ∧ V2.cell? ⟨ub, 0, none⟩ = some (.pointer (some ⟨yb, 0, none⟩)) ∧ V2.cell? ⟨ub, 1, none⟩ = some (.pointer ulp) ∧ V2.cell? ⟨ub, 2, none⟩ = some (.pointer urp) := ⟨(kc _ _ htl).trans KEEP.1, (kc _ _ htl).trans KEEP.2.1, (kc _ _ htl).trans KEEP.2.2.1, (kc _ _ hul').trans KEEP.2.2.2.1, (kc _ _ hul').trans KEEP.2.2.2.2.1, (kc _ _ hul').trans KEEP.2.2.2.2.2⟩
  have htl : tb < V2.heap.size := Nat.lt_of_lt_of_le htl sV2
  have hul' : ub < V2.heap.size := Nat.lt_of_lt_of_le hul' sV2
  clear kc
  have t1 := t1.below gV2
  go_wp2_with fail
  refine hK.out _ _ ?_ (fun hHeld => ?_)
  · ((try dsimp only); exact KEEP)
  clear hK K hHold
  try simp only [Act.put, List.setIfInBounds_toArray, List.set_cons_zero, List.set_cons_succ]
  refine wpAnyH_ready (rs := [24]) (by kernel_rfl) (by simp) ?_
  refine AllReadyH.cons (o := { dst := some 63, op := Op.call { callee := Callee.value (Operand.func 50), args := #[Operand.tmp 45, Operand.tmp 49, Operand.tmp 62], argTypes := #[95, 61, 95] }, type := 95, pos := "tree.go:85", after := #[{ on := 6, ground := Ground.data }, { on := 10, ground := Ground.data }, { on := 23, ground := Ground.data }, { on := 23, ground := Ground.chain }], guard := none }) rfl (fun K hK => ?_) AllReadyH.nil
  have hHold := hHeld
  clear hHeld
  go_simp
  have hcl := grownC t1 t2 yb yl (HX.out V2 (unhide GV2)).2.2.1 (by simp only [List.length_append, List.length_cons]; omega)
  refine hcl.mono ?_
  clear hcl
  rintro e V3 ⟨q3, i3, rfl, hq3, gV3, t3⟩
  have sV3 : V2.heap.size ≤ V3.heap.size := gV3.size
  have GV3 : Hid (Below W.heap.size W V3) := (unhide GV2).trans (gV3.mono (by have := (unhide GV2).size; show W.heap.size ≤ V2.heap.size; omega))
  have kc : ∀ k o, k < V2.heap.size → V3.cell? ⟨k, o, none⟩ = V2.cell? ⟨k, o, none⟩ := fun k o hk => World.cell?_of_block (a := ⟨k, o, none⟩) (w := V2) (gV3.block k hk)
  have KEEP : V3.cell? ⟨tb, 0, none⟩ = some (.pointer (some ⟨xb, 0, none⟩)) ∧ V3.cell? ⟨tb, 1, none⟩ = some (.pointer (some ⟨ub, 0, none⟩)) ∧ V3.cell? ⟨tb, 2, none⟩ = some (.pointer np) ∧ V3.cell? ⟨ub, 0, none⟩ = some (.pointer (some ⟨yb, 0, none⟩)) ∧ V3.cell? ⟨ub, 1, none⟩ = some (.pointer ulp) ∧ V3.cell? ⟨ub, 2, none⟩ = some (.pointer urp) := ⟨(kc _ _ htl).trans KEEP.1, (kc _ _ htl).trans KEEP.2.1, (kc _ _ htl).trans KEEP.2.2.1, (kc _ _ hul').trans KEEP.2.2.2.1, (kc _ _ hul').trans KEEP.2.2.2.2.1, (kc _ _ hul').trans KEEP.2.2.2.2.2⟩
  have htl : tb < V3.heap.size := Nat.lt_of_lt_of_le htl sV3
  have hul' : ub < V3.heap.size := Nat.lt_of_lt_of_le hul' sV3
  clear kc
  go_wp2_with fail
  refine hK.out _ _ ?_ (fun hHeld => ?_)
  · ((try dsimp only); exact KEEP)
  clear hK K hHold
  try simp only [Act.put, List.setIfInBounds_toArray, List.set_cons_zero, List.set_cons_succ]
  refine wpAnyH_take (i := 25) (oi := { dst := some 6, op := Op.assign (Operand.tmp 63), type := 95, pos := "tree.go:85", after := #[{ on := 24, ground := Ground.data }, { on := 24, ground := Ground.chain }, { on := 0, ground := Ground.phase }, { on := 1, ground := Ground.phase }, { on := 2, ground := Ground.phase }, { on := 3, ground := Ground.phase }, { on := 4, ground := Ground.phase }, { on := 5, ground := Ground.phase }, { on := 6, ground := Ground.phase }, { on := 7, ground := Ground.phase }, { on := 8, ground := Ground.phase }, { on := 9, ground := Ground.phase }, { on := 10, ground := Ground.phase }, { on := 11, ground := Ground.phase }, { on := 12, ground := Ground.phase }, { on := 13, ground := Ground.phase }, { on := 14, ground := Ground.phase }, { on := 15, ground := Ground.phase }, { on := 16, ground := Ground.phase }, { on := 17, ground := Ground.phase }, { on := 18, ground := Ground.phase }, { on := 19, ground := Ground.phase }, { on := 20, ground := Ground.phase }, { on := 21, ground := Ground.phase }, { on := 22, ground := Ground.phase }, { on := 23, ground := Ground.phase }, { on := 24, ground := Ground.phase }], guard := none }) (v := ?_) rfl (by kernel_rfl) (by kernel_rfl) (by kernel_rfl) (fun _ _ _ h => h) (Or.inl ⟨by rfl, ?_⟩) hHeld ?_
  rotate_left
  · (intro w' hSw; (try dsimp only at hSw); go_simp; try with_reducible rfl)
  try simp only [Act.put, List.setIfInBounds_toArray, List.set_cons_zero, List.set_cons_succ]
  refine wpAnyH_done (by kernel_rfl) ?_ _
  refine NoPanic.normal ?_
  clear hHeld KEEP
  have HF : Hid (Below W.heap.size W V3 ∧ W.heap.size ≤ q3 ∧ TrL V3 (some ⟨q3, 0, none⟩) (Lo ++ (eb, pl) :: ((Lul ++ (yb, yl) :: Lur) ++ (xb, xl) :: Ln)) i3) := ⟨unhide GV3, by omega, by have h := t3; rw [show (Lo ++ (eb, pl) :: Lul) ++ (yb, yl) :: (Lur ++ (xb, xl) :: Ln) = Lo ++ (eb, pl) :: ((Lul ++ (yb, yl) :: Lur) ++ (xb, xl) :: Ln) by simp] at h; exact h⟩
  clear t1 t2 t3 gV1 gV2 gV3 GV0 GV1 GV2 GV3 HX
  go_wp2_with fail
  all_goals go_ret
  all_goals exact ⟨q3, i3, rfl, HF.out.2.1, HF.out.1, HF.out.2.2⟩
theorem leaningRight_any {W : World} {tp op : Option Addr} {eb : Nat} {pl : Int} {Lt Lo : List (Nat × Int)} {ht ho : Int} (h1 : TrL W tp Lt ht) (h3 : TrL W op Lo ho) (he : W.cell? ⟨eb, 0, none⟩ = some (.int .i64 pl)) (hn : Lt.length + Lo.length < 4611686018427387900) (hc : 1 ≤ ht) : TreeC W 59 #[.pointer op, .pointer (some ⟨eb, 0, none⟩), .pointer tp] (Lo ++ (eb, pl) :: Lt) := by
  rcases h1.cases with ⟨_, _, rfl⟩ | ⟨tb, xb, xl, lp, rp, Ll, Lr, hl, hr, rfl, hb, hx, k1, k2, rfl, rfl⟩
  · omega
  · rw [len_cons] at hn
    by_cases hle : hl ≤ hr
    · exact leaningRight_a hb hx he k1 k2 h3 (by omega) hle
    · rcases k1.cases with ⟨_, _, rfl⟩ | ⟨ub, yb, yl, ulp, urp, Lul, Lur, hul, hur, rfl, hu, hy, m1, m2, rfl, rfl⟩
      · have := k2.ht; omega
      · rw [len_cons] at hn
        exact leaningRight_b hb hu hx hy he k2 m1 m2 h3 (by omega) (by omega)
set_option maxRecDepth 100000 in
set_option maxHeartbeats 4000000 in
theorem balanced_any {W : World} {lp rp : Option Addr} {eb : Nat} {pl : Int} {Ll Lr : List (Nat × Int)} {hl hr : Int} (h1 : TrL W lp Ll hl) (h2 : TrL W rp Lr hr) (he : W.cell? ⟨eb, 0, none⟩ = some (.int .i64 pl)) (hn : Ll.length + Lr.length < 4611686018427387900) : TreeC W 51 #[.pointer lp, .pointer (some ⟨eb, 0, none⟩), .pointer rp] (Ll ++ (eb, pl) :: Lr) := by
  have b1 := h1.ht
  have b2 := h2.ht
  have t1 := tall_any h1.tall
  have t2 := tall_any h2.tall
  have w1 : wrap64 (hr + 1) = hr + 1 := by unfold wrap64; omega
  have w2 : wrap64 (hl + 1) = hl + 1 := by unfold wrap64; omega
  by_cases c1 : hr + 1 < hl
  · have hx := leaningLeft_any h1 h2 he hn (by omega)
    unfold TreeC at hx ⊢
    clear h1 h2 he b1 b2 w2
    have c1' : hl > hr + 1 := c1
    go_enter Try.func51, Try.ntmps51
    go_wp2_with fail
    refine t1.mono ?_
    rintro e V1 ⟨rfl, rfl⟩
    go_wp2_with fail
    refine t2.mono ?_
    rintro e V2 ⟨rfl, rfl⟩
    go_wp2_with fail
    refine hx.mono ?_
    rintro e V3 ⟨q, h, rfl, k1, k2, k3⟩
    have HF := hide (And.intro k1 (And.intro k2 k3))
    clear k1 k2 k3 hx t1 t2
    go_wp2_with fail
    all_goals go_ret
    all_goals exact ⟨q, h, rfl, HF.out⟩
  · have c1' : ¬ (hl > hr + 1) := c1
    by_cases c2 : hl + 1 < hr
    · have hx := leaningRight_any h2 h1 he (by omega) (by omega)
      unfold TreeC at hx ⊢
      clear h1 h2 he b1 b2 c1
      have c2' : hr > hl + 1 := c2
      go_enter Try.func51, Try.ntmps51
      go_wp2_with fail
      refine t1.mono ?_
      rintro e V1 ⟨rfl, rfl⟩
      go_wp2_with fail
      refine t2.mono ?_
      rintro e V2 ⟨rfl, rfl⟩
      go_wp2_with fail
      refine t2.mono ?_
      rintro e V1 ⟨rfl, rfl⟩
      go_wp2_with fail
      refine t1.mono ?_
      rintro e V2 ⟨rfl, rfl⟩
      go_wp2_with fail
      refine hx.mono ?_
      rintro e V3 ⟨q, h, rfl, k1, k2, k3⟩
      have HF := hide (And.intro k1 (And.intro k2 k3))
      clear k1 k2 k3 hx t1 t2
      go_wp2_with fail
      all_goals go_ret
      all_goals exact ⟨q, h, rfl, HF.out⟩
    · have hx := grownC h1 h2 eb pl he (by omega)
      have c2' : ¬ (hr > hl + 1) := c2
      unfold TreeC at hx ⊢
      clear h1 h2 he b1 b2 c1 c2
      go_enter Try.func51, Try.ntmps51
      go_wp2_with fail
      refine t1.mono ?_
      rintro e V1 ⟨rfl, rfl⟩
      go_wp2_with fail
      refine t2.mono ?_
      rintro e V2 ⟨rfl, rfl⟩
      go_wp2_with fail
      refine t2.mono ?_
      rintro e V1 ⟨rfl, rfl⟩
      go_wp2_with fail
      refine t1.mono ?_
      rintro e V2 ⟨rfl, rfl⟩
      go_wp2_with fail
      refine hx.mono ?_
      rintro e V3 ⟨q, h, rfl, k1, k2, k3⟩
      have HF := hide (And.intro k1 (And.intro k2 k3))
      clear k1 k2 k3 hx t1 t2
      go_wp2_with fail
      all_goals go_ret
      all_goals exact ⟨q, h, rfl, HF.out⟩
end Go.Proofs.Ytjdanfhbccpnpaa

