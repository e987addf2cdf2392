import Derived.Test.YtjdanfhbccpnpaaAs
import Derived.Shelf.Abstract
import Derived.Shelf.RegionOpen
import Derived.WalkKit
import Derived.OwnWalkIn
import Derived.TacticsInMore
import Derived.LoopNIn
import Derived.LoopIn
/- Terms in memory (Tm, IsT), what a round keeps (Kp), and the contract of term.walk: it yields every part of a term, in its order, or stops where a round says so. -/
namespace Go.Proofs.Ytjdanfhbccpnpaa
open Go.RowKit Go.Shelf
attribute [local go_sem] Oper.semAt_some

theorem hide {p : Prop} (h : p) : Hid p := h
theorem unhide {p : Prop} (h : Hid p) : p := h
/-- A term of at most n storeys: its four cells, and its Args. -/
def Tm : Nat → Type
  | 0 => Empty
  | n + 1 => TV × List (Tm n)
def Tm.tv : {n : Nat} → Tm n → TV
  | 0, t => Empty.elim t
  | _ + 1, t => Prod.fst t
def Tm.kids {n : Nat} (t : Tm (n + 1)) : List (Tm n) := Prod.snd t
/-- The parts, a term ahead of its Args. -/
def parts : {n : Nat} → Tm n → List TV
  | 0, t => Empty.elim t
  | _ + 1, t => t.tv :: t.kids.flatMap parts
def cellsAt (W : World) (b o : Nat) (x : TV) : Prop :=
  W.cell? ⟨b, o, none⟩ = some (.int .i64 x.k) ∧ W.cell? ⟨b, o + 1, none⟩ = some (.int .i64 x.N) ∧ W.cell? ⟨b, o + 2, none⟩ = some (.string x.s) ∧ W.cell? ⟨b, o + 3, none⟩ = some (.slice x.a x.len x.cap)
/-- The term lies in the world W, in blocks below n₀, nested no deeper than a list of what is left of it may be long. -/
def IsT (n₀ : Nat) (W : World) : {n : Nat} → Tm n → Prop
  | 0, t => Empty.elim t
  | n + 1, t => t.tv.len = t.kids.length ∧ (t.tv.len ≤ 9223372036854775807 ∧ t.tv.len ≤ t.tv.cap ∧ n + 1 ≤ 2199023255552) ∧ t.tv.s.size ≤ 9223372036854775807 ∧ (t.kids = [] ∨ ∃ b off, t.tv.a = some ⟨b, off, none⟩ ∧ b < n₀ ∧
      ∀ j u, t.kids[j]? = some u → cellsAt W b (off + j * 4) u.tv ∧ IsT n₀ W u)

/-- Cells of terms, and of lists of terms. -/
def tmCells : Obj → Bool
  | .cells _ e _ => e == 24 || e == 22
  | _ => false
/-- What lies below n₀ and is cells, and what was laid from n₁ on and is cells of terms, lies as it lay. -/
structure Kp (n₀ n₁ : Nat) (A B : World) : Prop where
  size : A.heap.size ≤ B.heap.size
  same : ∀ (i : Nat) (o : Obj), (i < n₀ ∨ (n₁ ≤ i ∧ tmCells o = true)) → A.heap[i]? = some o → o.isCells = true → B.heap[i]? = some o

theorem Kp.refl (n₀ n₁ : Nat) (A : World) : Kp n₀ n₁ A A := ⟨Nat.le_refl _, fun _ _ _ h _ => h⟩
theorem Kp.trans {n₀ n₁ : Nat} {A B C : World} (h : Kp n₀ n₁ A B) (k : Kp n₀ n₁ B C) : Kp n₀ n₁ A C := ⟨Nat.le_trans h.size k.size, fun i o hi ha hc => k.same i o hi (h.same i o hi ha hc) hc⟩
theorem Kp.alloc {n₀ n₁ : Nat} {A B : World} (h : Kp n₀ n₁ A B) (o : Obj) : Kp n₀ n₁ A (B.alloc o) :=
  h.trans ⟨by simp, fun i _ _ hb _ => (Below.heap_alloc B o i (Array.getElem?_eq_some_iff.1 hb).1).trans hb⟩
theorem Kp.putObj {n₀ n₁ : Nat} {w : World} (W : World) (l : Nat) (o o' : Obj) (_ : w.heap.size ≤ l) (h : W.heap[l]? = some o) (hc : o.isCells = false) (_ : o.isWalk = false) : Kp n₀ n₁ W (W.putObj l o') :=
  ⟨(grownBy_putObj' W l o').size, fun i o2 _ hi hcc => by
    by_cases e : i = l
    · subst e; rw [h] at hi; cases hi; rw [hc] at hcc; cases hcc
    · rw [World.putObj_heap_other (fun e' => e e')]; exact hi⟩
theorem Kp.of_below {n₀ n₁ : Nat} {A B : World} (h : Below A.heap.size A B) : Kp n₀ n₁ A B :=
  ⟨h.size, fun i _ _ ha _ => (h.block i (Array.getElem?_eq_some_iff.1 ha).1).trans ha⟩
theorem Kp.own {n₀ n₁ : Nat} {A B : World} (h : Kp n₀ n₁ A B) {b : Nat} {c : Array Value} {m : Nat × Nat} (hn : n₁ ≤ b) (ha : A.heap[b]? = some (.cells c 24 m)) : B.heap[b]? = some (.cells c 24 m) :=
  h.same b _ (.inr ⟨hn, by simp [tmCells]⟩) ha rfl
theorem Kp.cell {n₀ n₁ : Nat} {A B : World} (h : Kp n₀ n₁ A B) {b o : Nat} {v : Value} (hb : b < n₀) (hc : A.cell? ⟨b, o, none⟩ = some v) : B.cell? ⟨b, o, none⟩ = some v := by
  unfold World.cell? at hc ⊢
  simp only at hc ⊢
  cases ha : A.heap[b]? with
  | none => rw [ha] at hc; cases hc
  | some ob =>
    rw [ha] at hc
    cases ob with
    | cells c t m => rw [h.same b _ (.inl hb) ha rfl]; exact hc
    | _ => cases hc
theorem cellsAt.kp {n₀ n₁ : Nat} {A B : World} (h : Kp n₀ n₁ A B) {b o : Nat} {x : TV} (hb : b < n₀) (hc : cellsAt A b o x) : cellsAt B b o x :=
  ⟨h.cell hb hc.1, h.cell hb hc.2.1, h.cell hb hc.2.2.1, h.cell hb hc.2.2.2⟩
theorem IsT.kp {n₀ n₁ : Nat} {A B : World} (h : Kp n₀ n₁ A B) : ∀ {n : Nat} {t : Tm n}, IsT n₀ A t → IsT n₀ B t := by
  intro n
  induction n with
  | zero => intro t; exact Empty.elim t
  | succ n ih =>
    intro t ht
    obtain ⟨h1, h2, h3, h4⟩ := ht
    rcases h4 with h4 | ⟨b, off, ha, hb, hk⟩
    · exact ⟨h1, h2, h3, .inl h4⟩
    · exact ⟨h1, h2, h3, .inr ⟨b, off, ha, hb, fun j u hu => ⟨(hk j u hu).1.kp h hb, ih (hk j u hu).2⟩⟩⟩
theorem IsT.below {n₀ : Nat} {A B : World} (h : Below n₀ A B) {n : Nat} {t : Tm n} (ht : IsT n₀ A t) : IsT n₀ B t :=
  ht.kp (n₁ := max n₀ A.heap.size) ⟨h.size, fun i _ hi ha _ => by
    have hlt := (Array.getElem?_eq_some_iff.1 ha).1
    have hi' : i < n₀ := by
      rcases hi with hi | ⟨hi, -⟩
      · exact hi
      · omega
    exact (h.block i hi').trans ha⟩
theorem IsT.mono {n₀ n₁ : Nat} (hle : n₀ ≤ n₁) {A : World} : ∀ {n : Nat} {t : Tm n}, IsT n₀ A t → IsT n₁ A t := by
  intro n
  induction n with
  | zero => intro t; exact Empty.elim t
  | succ n ih =>
    intro t ht
    obtain ⟨h1, h2, h3, h4⟩ := ht
    rcases h4 with h4 | ⟨b, off, ha, hb, hk⟩
    · exact ⟨h1, h2, h3, .inl h4⟩
    · exact ⟨h1, h2, h3, .inr ⟨b, off, ha, by omega, fun j u hu => ⟨(hk j u hu).1, ih (hk j u hu).2⟩⟩⟩

theorem room_of_none {F : Fence} (hd : F.depth = none) (k : Nat) : F.room k := fun d h => by rw [hd] at h; cases h
theorem RoundIn.anyDepth {F : Fence} (hd : F.depth = none) {m m' : Nat} {P : Program} {l : Nat} {f : FuncId} {tmps : Array Value} {assign body : Code} {w : World} {R : Ending → World → Prop}
    (h : RoundIn F m P l f tmps assign body w R) : RoundIn F m' P l f tmps assign body w R := ⟨h.1, fun c cs _ => h.2 c cs (room_of_none hd _)⟩
theorem YieldAt.anyDepth {F : Fence} (hd : F.depth = none) {m : Nat} (m' : Nat) {P : Program} {l : Nat} {args : Array Value} {W : World} {R : Ending → World → Prop} (h : YieldAt F m P l args W R) : YieldAt F m' P l args W R := by
  obtain ⟨fn, tmps, assign, body, hy, hR⟩ := h
  exact ⟨fn, tmps, assign, body, hy, RoundIn.anyDepth hd hR⟩

theorem Kp.ownR {n₀ n₁ : Nat} {A B : World} (h : Kp n₀ n₁ A B) {b : Nat} {c : Array Value} {m : Nat × Nat} (hn : n₁ ≤ b) (ha : A.heap[b]? = some (.cells c 22 m)) : B.heap[b]? = some (.cells c 22 m) :=
  h.same b _ (.inr ⟨hn, by simp [tmCells]⟩) ha rfl
/-- The least number of which something holds. -/
theorem least_ex {p : Nat → Prop} (h : ∃ k, p k) : ∃ k, p k ∧ ∀ j, p j → k ≤ j := by
  obtain ⟨k, hk⟩ := h
  induction k using Nat.strongRecOn with
  | ind k ih =>
    by_cases hs : ∃ j, j < k ∧ p j
    · obtain ⟨j, hj, hp⟩ := hs
      exact ih j hj hp
    · exact ⟨k, hk, fun j hj => Nat.le_of_not_lt fun hlt => hs ⟨j, hlt, hj⟩⟩
open Classical in
noncomputable def leastK (p : Nat → Prop) : Nat := if h : ∃ k, p k then Classical.choose (least_ex h) else 0
theorem leastK_spec {p : Nat → Prop} (h : ∃ k, p k) : p (leastK p) := by
  unfold leastK
  rw [dif_pos h]
  exact (Classical.choose_spec (least_ex h)).1
theorem leastK_le {p : Nat → Prop} {k : Nat} (h : p k) : leastK p ≤ k := by
  unfold leastK
  rw [dif_pos ⟨k, h⟩]
  exact (Classical.choose_spec (least_ex ⟨k, h⟩)).2 k h
/-- Terms that are left, in a list. -/
structure Lf where
  n : Nat
  a : Option Addr
  cap : Nat
  ts : List (Tm n)
def Lf.val (e : Lf) : Value := .slice e.a e.ts.length e.cap
def Lf.Is (n₀ : Nat) (W : World) (e : Lf) : Prop := e.ts.length ≤ e.cap ∧ (e.ts = [] ∨ ∃ b off, e.a = some ⟨b, off, none⟩ ∧ b < n₀ ∧ ∀ j u, e.ts[j]? = some u → cellsAt W b (off + j * 4) u.tv ∧ IsT n₀ W u)
def Lf.all (e : Lf) : List TV := e.ts.flatMap parts
/-- All that is left, the last list first. -/
def restL (S : List Lf) : List TV := S.reverse.flatMap Lf.all
theorem restL_snoc (S : List Lf) (e : Lf) : restL (S ++ [e]) = e.all ++ restL S := by simp [restL]
theorem restL_nil : restL [] = [] := rfl
theorem Lf.Is.kp {n₀ n₁ : Nat} {A B : World} (h : Kp n₀ n₁ A B) {e : Lf} (he : e.Is n₀ A) : e.Is n₀ B := by
  obtain ⟨h1, h2⟩ := he
  refine ⟨h1, ?_⟩
  rcases h2 with h2 | ⟨b, off, ha, hb, hk⟩
  · exact .inl h2
  · exact .inr ⟨b, off, ha, hb, fun j u hu => ⟨(hk j u hu).1.kp h hb, (hk j u hu).2.kp h⟩⟩
/-- The Args of a term that lies, as what is left. -/
def kidsL {n : Nat} (t : Tm (n + 1)) : Lf := ⟨n, t.tv.a, t.tv.cap, t.kids⟩
theorem kidsL_is {n₀ : Nat} {W : World} {n : Nat} {t : Tm (n + 1)} (h : IsT n₀ W t) : (kidsL t).Is n₀ W := by
  obtain ⟨h1, ⟨h2, h2', _⟩, h3, h4⟩ := h
  exact ⟨by show t.kids.length ≤ t.tv.cap; omega, h4⟩
theorem kidsL_val {n₀ : Nat} {W : World} {n : Nat} {t : Tm (n + 1)} (h : IsT n₀ W t) : (kidsL t).val = .slice t.tv.a t.tv.len t.tv.cap := by
  show Value.slice t.tv.a t.kids.length t.tv.cap = _
  rw [h.1]
theorem kidsL_all {n : Nat} (t : Tm (n + 1)) : parts t = t.tv :: (kidsL t).all := rfl
/-- The lists that are left, in a row of the call's own. -/
def Stk (n₁ g cap : Nat) (W : World) (S : List Lf) : Prop := W.ownsRow n₁ 22 1 (.slice (some ⟨g, 0, none⟩) S.length cap) S.length (S.map Lf.val)
theorem Stk.blk {n₁ g cap : Nat} {W : World} {S : List Lf} (h : Stk n₁ g cap W S) : n₁ ≤ g ∧ S.length ≤ cap ∧ ∃ cur, W.heap[g]? = some (.cells cur 22 (0, 0)) ∧ cap ≤ maxLen ∧ cur.size = cap ∧ cur.toList.take S.length = S.map Lf.val := by
  obtain ⟨h1, h2⟩ := h
  rcases h2 with ⟨h2, _⟩ | ⟨g', cap', cur, h2, h3, h4, h5, h6, h7, h8⟩
  · cases h2
  · simp only [Value.slice.injEq, Option.some.injEq, Addr.mk.injEq, and_true, true_and] at h2
    obtain ⟨rfl, rfl⟩ := h2
    exact ⟨h3, h5, cur, h4, h6, by omega, by simpa using h8⟩
theorem stk_mk {n₁ g cap : Nat} {W : World} {S : List Lf} {cur : Array Value} (h3 : n₁ ≤ g) (h5 : S.length ≤ cap) (h4 : W.heap[g]? = some (.cells cur 22 (0, 0))) (h6 : cap ≤ maxLen) (h7 : cur.size = cap) (h8 : cur.toList.take S.length = S.map Lf.val) : Stk n₁ g cap W S :=
  ⟨by simp, .inr ⟨g, cap, cur, rfl, h3, h4, h5, h6, by omega, by simpa using h8⟩⟩
theorem Stk.kept {n₁ g cap : Nat} {W W' : World} {S : List Lf} (h : Stk n₁ g cap W S) (hk : W'.heap[g]? = W.heap[g]?) : Stk n₁ g cap W' S := by
  obtain ⟨h1, h2, cur, h3, h4, h5, h6⟩ := h.blk
  exact stk_mk h1 h2 (hk.trans h3) h4 h5 h6
theorem Stk.kp {n₀ n₁ g cap : Nat} {W W' : World} {S : List Lf} (h : Stk n₁ g cap W S) (hk : Kp n₀ n₁ W W') : Stk n₁ g cap W' S := by
  obtain ⟨h1, h2, cur, h3, h4, h5, h6⟩ := h.blk
  exact h.kept ((hk.ownR h1 h3).trans h3.symm)
theorem Stk.pop {n₁ g cap : Nat} {W : World} {S : List Lf} {e : Lf} (h : Stk n₁ g cap W (S ++ [e])) : Stk n₁ g cap W S := by
  obtain ⟨h1, h2, cur, h3, h4, h5, h6⟩ := h.blk
  simp only [List.length_append, List.length_cons, List.length_nil] at h2 h6
  refine stk_mk h1 (by omega) h3 h4 h5 ?_
  have := congrArg (List.take S.length) h6
  rw [List.take_take] at this
  simpa [Nat.min_eq_left (Nat.le_succ _)] using this
theorem Stk.top {n₁ g cap : Nat} {W : World} {S : List Lf} {e : Lf} (h : Stk n₁ g cap W (S ++ [e])) : W.cell? ⟨g, S.length, none⟩ = some e.val ∧ W.frozen? ⟨g, S.length, none⟩ = false := by
  have h1 := World.ownsRow.cellAt h S.length (by simp)
  have h2 := World.ownsRow.frozenAt h S.length
  refine ⟨h1.trans ?_, h2⟩
  simp
theorem Stk.set {n₁ g cap : Nat} {W : World} {S : List Lf} {e : Lf} (h : Stk n₁ g cap W (S ++ [e])) (e' : Lf) : Stk n₁ g cap (W.setCell ⟨g, S.length, none⟩ e'.val) (S ++ [e']) := by
  have h1 := (World.ownsRow.stored h S.length e'.val).1
  unfold Stk
  simpa [List.set_append] using h1
theorem take_parts {n : Nat} (kids : List (Tm n)) (j : Nat) (u : Tm n) (h : kids[j]? = some u) : (kids.take (j + 1)).flatMap parts = (kids.take j).flatMap parts ++ parts u := by
  obtain ⟨hj, rfl⟩ := List.getElem?_eq_some_iff.1 h
  rw [List.take_succ_eq_append_getElem hj, List.flatMap_append, List.flatMap_cons, List.flatMap_nil, List.append_nil]
theorem pre_parts {n : Nat} (kids : List (Tm n)) (j : Nat) (u : Tm n) (h : kids[j]? = some u) : ((kids.take j).flatMap parts).length + (parts u).length ≤ (kids.flatMap parts).length := by
  have h1 : kids.flatMap parts = (kids.take (j + 1)).flatMap parts ++ (kids.drop (j + 1)).flatMap parts := by rw [← List.flatMap_append, List.take_append_drop]
  rw [h1, take_parts kids j u h]; simp only [List.length_append]; omega
theorem pre_parts' {n : Nat} (kids : List (Tm n)) (j : Nat) (u : Tm n) (h : kids[j]? = some u) (q : List TV) (hq : q <+: parts u) : (kids.take j).flatMap parts ++ q <+: kids.flatMap parts := by
  have h1 : kids.flatMap parts = (kids.take (j + 1)).flatMap parts ++ (kids.drop (j + 1)).flatMap parts := by rw [← List.flatMap_append, List.take_append_drop]
  obtain ⟨r, hr⟩ := hq
  rw [h1, take_parts kids j u h, ← hr]
  exact ⟨r ++ (kids.drop (j + 1)).flatMap parts, by simp⟩

end Go.Proofs.Ytjdanfhbccpnpaa

