import Derived.Test.YtlbobmebbllifaaGreatBcI
/- Trees in memory by their entries in a row: what holds whatever their shape. -/
namespace Go.Proofs.YtlbobmebbllifaaGreat
open Go.RowKit Go.Shelf Go.Maps
def Tr.lift : {n : Nat} → Tr n → Tr (n + 1)
 | 0, _ => (none : Option (Nat × Nat × Int × Int × Tr 0 × Tr 0))
 | n + 1, t => match (t : Option (Nat × Nat × Int × Int × Tr n × Tr n)) with
  | none => (none : Option (Nat × Nat × Int × Int × Tr (n + 1) × Tr (n + 1)))
  | some (tb, eb, pl, h, l, r) => nodeT tb eb pl h l.lift r.lift
def entsT : {n : Nat} → Tr n → List (Nat × Int)
 | 0, _ => []
 | n + 1, t => match (t : Option (Nat × Nat × Int × Int × Tr n × Tr n)) with
  | none => []
  | some (_, eb, pl, _, l, r) => entsT l ++ (eb, pl) :: entsT r
def htT : {n : Nat} → Tr n → Int
 | 0, _ => 0
 | n + 1, t => match (t : Option (Nat × Nat × Int × Int × Tr n × Tr n)) with
  | none => 0
  | some (_, _, _, h, _, _) => h
def HtOK : {n : Nat} → Tr n → Prop
 | 0, _ => True
 | n + 1, t => match (t : Option (Nat × Nat × Int × Int × Tr n × Tr n)) with
  | none => True
  | some (_, _, _, h, l, r) => h = max (htT l) (htT r) + 1 ∧ HtOK l ∧ HtOK r
theorem lift_is {W : World} : ∀ {n : Nat} {t : Tr n} {p : Option Addr}, TrIs W t p → TrIs W t.lift p := by
 intro n
 induction n with
 | zero => intro t p h; exact h
 | succ n ih =>
  intro t p h
  match t, h with
  | none, h => exact h
  | some (tb, eb, pl, ht, l, r), h =>
   obtain ⟨h1, lp, rp, h2, h3, h4, h5⟩ := h
   exact ⟨h1, lp, rp, h2, h3, ih h4, ih h5⟩
theorem lift_ents : ∀ {n : Nat} (t : Tr n), entsT t.lift = entsT t := by
 intro n
 induction n with
 | zero => intro t; rfl
 | succ n ih =>
  intro t
  match t with
  | none => rfl
  | some (tb, eb, pl, ht, l, r) =>
   show entsT l.lift ++ (eb, pl) :: entsT r.lift = entsT l ++ (eb, pl) :: entsT r
   rw [ih l, ih r]
theorem lift_ht : ∀ {n : Nat} (t : Tr n), htT t.lift = htT t := by
 intro n
 cases n with
 | zero => intro t; rfl
 | succ n =>
  intro t
  match t with
  | none => rfl
  | some (tb, eb, pl, ht, l, r) => rfl
theorem lift_htok : ∀ {n : Nat} {t : Tr n}, HtOK t → HtOK t.lift := by
 intro n
 induction n with
 | zero => intro t _; exact True.intro
 | succ n ih =>
  intro t h
  match t, h with
  | none, _ => exact True.intro
  | some (tb, eb, pl, ht, l, r), h =>
   obtain ⟨h1, h2, h3⟩ := h
   show ht = max (htT l.lift) (htT r.lift) + 1 ∧ HtOK l.lift ∧ HtOK r.lift
   rw [lift_ht, lift_ht]
   exact ⟨h1, ih h2, ih h3⟩
def TrL (W : World) (p : Option Addr) (L : List (Nat × Int)) (h : Int) : Prop := ∃ N, ∀ n, N ≤ n → ∃ t : Tr n, TrIs W t p ∧ HtOK t ∧ entsT t = L ∧ htT t = h
theorem trL_of {W : World} {p : Option Addr} {n : Nat} {t : Tr n} (h1 : TrIs W t p) (h2 : HtOK t) : TrL W p (entsT t) (htT t) := by
 refine ⟨n, fun m hm => ?_⟩
 obtain ⟨d, rfl⟩ : ∃ d, m = n + d := ⟨m - n, by omega⟩
 clear hm
 induction d with
 | zero => exact ⟨t, h1, h2, rfl, rfl⟩
 | succ d ih =>
  obtain ⟨t', k1, k2, k3, k4⟩ := ih
  exact ⟨t'.lift, lift_is k1, lift_htok k2, (lift_ents t').trans k3, (lift_ht t').trans k4⟩
theorem TrL.nil (W : World) : TrL W none [] 0 := trL_of (n := 0) (t := ()) rfl True.intro
theorem TrL.node {W : World} {lp rp : Option Addr} {Ll Lr : List (Nat × Int)} {hl hr : Int} (h1 : TrL W lp Ll hl) (h2 : TrL W rp Lr hr) {tb eb : Nat} {pl : Int} (hb : W.heap[tb]? = some (.cells #[.pointer (some ⟨eb, 0, none⟩), .pointer lp, .pointer rp, .int .i64 (max hl hr + 1)] 131 (0, 0))) (hc : W.cell? ⟨eb, 0, none⟩ = some (.int .i64 pl)) :
  TrL W (some ⟨tb, 0, none⟩) (Ll ++ (eb, pl) :: Lr) (max hl hr + 1) := by
 obtain ⟨N1, k1⟩ := h1
 obtain ⟨N2, k2⟩ := h2
 obtain ⟨t1, a1, a2, a3, a4⟩ := k1 (N1 + N2) (by omega)
 obtain ⟨t2, b1, b2, b3, b4⟩ := k2 (N1 + N2) (by omega)
 have h := trL_of (n := N1 + N2 + 1) (t := nodeT tb eb pl (max hl hr + 1) t1 t2) (W := W) (p := some ⟨tb, 0, none⟩) ⟨rfl, lp, rp, hb, hc, a1, b1⟩ ⟨by rw [a4, b4], a2, b2⟩
 have e : entsT (nodeT tb eb pl (max hl hr + 1) t1 t2) = Ll ++ (eb, pl) :: Lr := by
  show entsT t1 ++ (eb, pl) :: entsT t2 = _
  rw [a3, b3]
 rw [e] at h
 exact h
theorem TrL.cases {W : World} {p : Option Addr} {L : List (Nat × Int)} {h : Int} (ht : TrL W p L h) : (p = none ∧ L = [] ∧ h = 0) ∨ ∃ (tb eb : Nat) (pl : Int) (lp rp : Option Addr) (Ll Lr : List (Nat × Int)) (hl hr : Int), p = some ⟨tb, 0, none⟩ ∧ W.heap[tb]? = some (.cells #[.pointer (some ⟨eb, 0, none⟩), .pointer lp, .pointer rp, .int .i64 h] 131 (0, 0)) ∧ W.cell? ⟨eb, 0, none⟩ = some (.int .i64 pl) ∧ TrL W lp Ll hl ∧ TrL W rp Lr hr ∧ L = Ll ++ (eb, pl) :: Lr ∧ h = max hl hr + 1 := by
 obtain ⟨N, k⟩ := ht
 obtain ⟨t, h1, h2, h3, h4⟩ := k (N + 1) (by omega)
 match t, h1, h2, h3, h4 with
 | none, h1, _, h3, h4 => exact .inl ⟨h1, h3.symm, h4.symm⟩
 | some (tb, eb, pl, ht, l, r), h1, h2, h3, h4 =>
  obtain ⟨rfl, lp, rp, hb, hc, hl, hr⟩ := h1
  obtain ⟨e1, e2, e3⟩ := h2
  have h4' : ht = h := h4
  subst h4'
  exact .inr ⟨tb, eb, pl, lp, rp, entsT l, entsT r, htT l, htT r, rfl, hb, hc, trL_of hl e2, trL_of hr e3, h3.symm, e1⟩
theorem TrL.below {A B : World} (hb : Below A.heap.size A B) {p : Option Addr} {L : List (Nat × Int)} {h : Int} (ht : TrL A p L h) : TrL B p L h := by
 obtain ⟨N, k⟩ := ht
 exact ⟨N, fun n hn => by obtain ⟨t, h1, h2⟩ := k n hn; exact ⟨t, h1.below hb, h2⟩⟩
theorem len_cons (Ll Lr : List (Nat × Int)) (x : Nat × Int) : (Ll ++ x :: Lr).length = Ll.length + Lr.length + 1 := by simp; omega
theorem TrL.ind {W : World} {P : Option Addr → List (Nat × Int) → Int → Prop} (hnil : P none [] 0)
  (hnode : ∀ (tb eb : Nat) (pl : Int) (lp rp : Option Addr) (Ll Lr : List (Nat × Int)) (hl hr : Int), W.heap[tb]? = some (.cells #[.pointer (some ⟨eb, 0, none⟩), .pointer lp, .pointer rp, .int .i64 (max hl hr + 1)] 131 (0, 0)) → W.cell? ⟨eb, 0, none⟩ = some (.int .i64 pl) → TrL W lp Ll hl → TrL W rp Lr hr → P lp Ll hl → P rp Lr hr → P (some ⟨tb, 0, none⟩) (Ll ++ (eb, pl) :: Lr) (max hl hr + 1)) :
  ∀ {p : Option Addr} {L : List (Nat × Int)} {h : Int}, TrL W p L h → P p L h := by
 have key : ∀ (n : Nat) {p : Option Addr} {L : List (Nat × Int)} {h : Int}, L.length ≤ n → TrL W p L h → P p L h := by
  intro n
  induction n with
  | zero =>
   intro p L h hn ht
   rcases ht.cases with ⟨rfl, rfl, rfl⟩ | ⟨tb, eb, pl, lp, rp, Ll, Lr, hl, hr, _, _, _, _, _, rfl, _⟩
   ·exact hnil
   ·rw [len_cons] at hn; omega
  | succ n ih =>
   intro p L h hn ht
   rcases ht.cases with ⟨rfl, rfl, rfl⟩ | ⟨tb, eb, pl, lp, rp, Ll, Lr, hl, hr, rfl, hb, hc, h1, h2, rfl, rfl⟩
   ·exact hnil
   ·rw [len_cons] at hn
    exact hnode tb eb pl lp rp Ll Lr hl hr hb hc h1 h2 (ih (by omega) h1) (ih (by omega) h2)
 intro p L h ht
 exact key L.length (Nat.le_refl _) ht
theorem TrL.ht {W : World} : ∀ {p : Option Addr} {L : List (Nat × Int)} {h : Int}, TrL W p L h → 0 ≤ h ∧ h ≤ L.length ∧ (h = 0 ↔ p = none) := by
 intro p L h ht
 refine TrL.ind (P := fun p L h => 0 ≤ h ∧ h ≤ L.length ∧ (h = 0 ↔ p = none)) ⟨by omega, by simp, by simp⟩ ?_ ht
 intro tb eb pl lp rp Ll Lr hl hr _ _ _ _ h1 h2
 rw [len_cons]
 refine ⟨by omega, by omega, ?_⟩
 constructor
 ·intro h; omega
 ·intro h; cases h
theorem TrL.tall {W : World} {p : Option Addr} {L : List (Nat × Int)} {h : Int} (ht : TrL W p L h) : Tall W p h := by
 rcases ht.cases with ⟨rfl, rfl, rfl⟩ | ⟨tb, eb, pl, lp, rp, Ll, Lr, hl, hr, rfl, hb, hc, h1, h2, rfl, rfl⟩
 ·exact .inl ⟨rfl, rfl⟩
 ·exact .inr ⟨tb, rfl, by simp [World.cell?, hb]⟩
theorem grownL {W : World} {lp rp : Option Addr} {Ll Lr : List (Nat × Int)} {hl hr : Int} (h1 : TrL W lp Ll hl) (h2 : TrL W rp Lr hr) (eb : Nat) (pl : Int) (hc : W.cell? ⟨eb, 0, none⟩ = some (.int .i64 pl)) (hn : Ll.length + Lr.length < 4611686018427387904) :
  Calls Tryz.prog 65 #[.pointer lp, .pointer (some ⟨eb, 0, none⟩), .pointer rp] W fun e W' => ∃ q h, e = .returned (.pointer (some ⟨q, 0, none⟩)) ∧ W.heap.size ≤ q ∧ Below W.heap.size W W' ∧ TrL W' (some ⟨q, 0, none⟩) (Ll ++ (eb, pl) :: Lr) h := by
 have k1 := h1.ht
 have k2 := h2.ht
 refine (grown_any lp (some ⟨eb, 0, none⟩) rp hl hr W h1.tall h2.tall (by omega) (by omega)).mono ?_
 rintro e W' ⟨rfl, rfl⟩
 have hb : Below W.heap.size W (W.alloc (.cells #[.pointer (some ⟨eb, 0, none⟩), .pointer lp, .pointer rp, .int .i64 (max hl hr + 1)] 131)) := (Below.refl _ W).alloc (Nat.le_refl _) _
 have hel : eb < W.heap.size := by
  by_cases h : eb < W.heap.size
  ·exact h
  ·have : W.heap[eb]? = none := Array.getElem?_eq_none (by omega)
   simp [World.cell?, this] at hc
 exact ⟨W.heap.size, _, rfl, Nat.le_refl _, hb, (h1.below hb).node (h2.below hb) (World.alloc_heap_new W _) ((hb.cell (p := ⟨eb, 0, none⟩) hel).trans hc)⟩
end Go.Proofs.YtlbobmebbllifaaGreat
