import Derived.RangeFuncNested
import Derived.RangeFuncBound
import Derived.RangeFuncCalls
import Derived.RangeFuncLeaves
import Derived.Shelf.Abstract
import Derived.Shelf.RegionOpen
import Derived.WalkKit
import Derived.OwnWalkIn
import Derived.TacticsInMore
import Derived.LoopNIn
import Derived.LoopIn
import Derived.Test.YtdjlekcapfeniaaA
/- Terms in memory (Tm, IsT), what a round keeps (Kp), and the contract of term.walk: it yields every part of a term, in its order, or stops where a round says so. -/
namespace Go.Proofs.Ytdjlekcapfeniaa
open Go.RowKit Go.Shelf
attribute [local go_sem] Oper.semAt_some

theorem hide {p : Prop} (h : p) : Hid p := h
theorem unhide {p : Prop} (h : Hid p) : p := h
/-- A term of at most n storeys: its four cells, and its Args. -/
def Tm : Nat → Type
  | 0 => Empty
  | n + 1 => TV × List (Tm n)
def Tm.tv : {n : Nat} → Tm n → TV
  | 0, t => Empty.elim t
  | _ + 1, t => Prod.fst t
def Tm.kids {n : Nat} (t : Tm (n + 1)) : List (Tm n) := Prod.snd t
/-- The parts, a term ahead of its Args. -/
def parts : {n : Nat} → Tm n → List TV
  | 0, t => Empty.elim t
  | _ + 1, t => t.tv :: t.kids.flatMap parts
def cellsAt (W : World) (b o : Nat) (x : TV) : Prop :=
  W.cell? ⟨b, o, none⟩ = some (.int .i64 x.k) ∧ W.cell? ⟨b, o + 1, none⟩ = some (.int .i64 x.N) ∧ W.cell? ⟨b, o + 2, none⟩ = some (.string x.s) ∧ W.cell? ⟨b, o + 3, none⟩ = some (.slice x.a x.len x.cap)
/-- The term lies in the world W, in blocks below n₀. -/
def IsT (n₀ : Nat) (W : World) : {n : Nat} → Tm n → Prop
  | 0, t => Empty.elim t
  | _ + 1, t => t.tv.len = t.kids.length ∧ t.tv.len ≤ 9223372036854775807 ∧ t.tv.s.size ≤ 9223372036854775807 ∧ (t.kids = [] ∨ ∃ b off, t.tv.a = some ⟨b, off, none⟩ ∧ b < n₀ ∧
      ∀ j u, t.kids[j]? = some u → cellsAt W b (off + j * 4) u.tv ∧ IsT n₀ W u)

/-- Cells of terms. -/
def tmCells : Obj → Bool
  | .cells _ e _ => e == 24
  | _ => false
/-- What lies below n₀ and is cells, and what was laid from n₁ on and is cells of terms, lies as it lay. -/
structure Kp (n₀ n₁ : Nat) (A B : World) : Prop where
  size : A.heap.size ≤ B.heap.size
  same : ∀ (i : Nat) (o : Obj), (i < n₀ ∨ (n₁ ≤ i ∧ tmCells o = true)) → A.heap[i]? = some o → o.isCells = true → B.heap[i]? = some o

theorem Kp.refl (n₀ n₁ : Nat) (A : World) : Kp n₀ n₁ A A := ⟨Nat.le_refl _, fun _ _ _ h _ => h⟩
theorem Kp.trans {n₀ n₁ : Nat} {A B C : World} (h : Kp n₀ n₁ A B) (k : Kp n₀ n₁ B C) : Kp n₀ n₁ A C := ⟨Nat.le_trans h.size k.size, fun i o hi ha hc => k.same i o hi (h.same i o hi ha hc) hc⟩
theorem Kp.alloc {n₀ n₁ : Nat} {A B : World} (h : Kp n₀ n₁ A B) (o : Obj) : Kp n₀ n₁ A (B.alloc o) :=
  h.trans ⟨by simp, fun i _ _ hb _ => (Below.heap_alloc B o i (Array.getElem?_eq_some_iff.1 hb).1).trans hb⟩
theorem Kp.putObj {n₀ n₁ : Nat} {w : World} (W : World) (l : Nat) (o o' : Obj) (_ : w.heap.size ≤ l) (h : W.heap[l]? = some o) (hc : o.isCells = false) (_ : o.isWalk = false) : Kp n₀ n₁ W (W.putObj l o') :=
  ⟨(grownBy_putObj' W l o').size, fun i o2 _ hi hcc => by
    by_cases e : i = l
    · subst e; rw [h] at hi; cases hi; rw [hc] at hcc; cases hcc
    · rw [World.putObj_heap_other (fun e' => e e')]; exact hi⟩
theorem Kp.of_below {n₀ n₁ : Nat} {A B : World} (h : Below A.heap.size A B) : Kp n₀ n₁ A B :=
  ⟨h.size, fun i _ _ ha _ => (h.block i (Array.getElem?_eq_some_iff.1 ha).1).trans ha⟩
theorem Kp.own {n₀ n₁ : Nat} {A B : World} (h : Kp n₀ n₁ A B) {b : Nat} {c : Array Value} {m : Nat × Nat} (hn : n₁ ≤ b) (ha : A.heap[b]? = some (.cells c 24 m)) : B.heap[b]? = some (.cells c 24 m) :=
  h.same b _ (.inr ⟨hn, by simp [tmCells]⟩) ha rfl
theorem Kp.cell {n₀ n₁ : Nat} {A B : World} (h : Kp n₀ n₁ A B) {b o : Nat} {v : Value} (hb : b < n₀) (hc : A.cell? ⟨b, o, none⟩ = some v) : B.cell? ⟨b, o, none⟩ = some v := by
  unfold World.cell? at hc ⊢
  simp only at hc ⊢
  cases ha : A.heap[b]? with
  | none => rw [ha] at hc; cases hc
  | some ob =>
    rw [ha] at hc
    cases ob with
    | cells c t m => rw [h.same b _ (.inl hb) ha rfl]; exact hc
    | _ => cases hc
theorem cellsAt.kp {n₀ n₁ : Nat} {A B : World} (h : Kp n₀ n₁ A B) {b o : Nat} {x : TV} (hb : b < n₀) (hc : cellsAt A b o x) : cellsAt B b o x :=
  ⟨h.cell hb hc.1, h.cell hb hc.2.1, h.cell hb hc.2.2.1, h.cell hb hc.2.2.2⟩
theorem IsT.kp {n₀ n₁ : Nat} {A B : World} (h : Kp n₀ n₁ A B) : ∀ {n : Nat} {t : Tm n}, IsT n₀ A t → IsT n₀ B t := by
  intro n
  induction n with
  | zero => intro t; exact Empty.elim t
  | succ n ih =>
    intro t ht
    obtain ⟨h1, h2, h3, h4⟩ := ht
    rcases h4 with h4 | ⟨b, off, ha, hb, hk⟩
    · exact ⟨h1, h2, h3, .inl h4⟩
    · exact ⟨h1, h2, h3, .inr ⟨b, off, ha, hb, fun j u hu => ⟨(hk j u hu).1.kp h hb, ih (hk j u hu).2⟩⟩⟩
theorem IsT.below {n₀ : Nat} {A B : World} (h : Below n₀ A B) {n : Nat} {t : Tm n} (ht : IsT n₀ A t) : IsT n₀ B t :=
  ht.kp (n₁ := max n₀ A.heap.size) ⟨h.size, fun i _ hi ha _ => by
    have hlt := (Array.getElem?_eq_some_iff.1 ha).1
    have hi' : i < n₀ := by
      rcases hi with hi | ⟨hi, -⟩
      · exact hi
      · omega
    exact (h.block i hi').trans ha⟩
theorem IsT.mono {n₀ n₁ : Nat} (hle : n₀ ≤ n₁) {A : World} : ∀ {n : Nat} {t : Tm n}, IsT n₀ A t → IsT n₁ A t := by
  intro n
  induction n with
  | zero => intro t; exact Empty.elim t
  | succ n ih =>
    intro t ht
    obtain ⟨h1, h2, h3, h4⟩ := ht
    rcases h4 with h4 | ⟨b, off, ha, hb, hk⟩
    · exact ⟨h1, h2, h3, .inl h4⟩
    · exact ⟨h1, h2, h3, .inr ⟨b, off, ha, by omega, fun j u hu => ⟨(hk j u hu).1, ih (hk j u hu).2⟩⟩⟩

theorem room_of_none {F : Fence} (hd : F.depth = none) (k : Nat) : F.room k := fun d h => by rw [hd] at h; cases h
theorem RoundIn.anyDepth {F : Fence} (hd : F.depth = none) {m m' : Nat} {P : Program} {l : Nat} {f : FuncId} {tmps : Array Value} {assign body : Code} {w : World} {R : Ending → World → Prop}
    (h : RoundIn F m P l f tmps assign body w R) : RoundIn F m' P l f tmps assign body w R := ⟨h.1, fun c cs _ => h.2 c cs (room_of_none hd _)⟩
theorem YieldAt.anyDepth {F : Fence} (hd : F.depth = none) {m : Nat} (m' : Nat) {P : Program} {l : Nat} {args : Array Value} {W : World} {R : Ending → World → Prop} (h : YieldAt F m P l args W R) : YieldAt F m' P l args W R := by
  obtain ⟨fn, tmps, assign, body, hy, hR⟩ := h
  exact ⟨fn, tmps, assign, body, hy, RoundIn.anyDepth hd hR⟩

theorem take_parts {n : Nat} (kids : List (Tm n)) (j : Nat) (u : Tm n) (h : kids[j]? = some u) : (kids.take (j + 1)).flatMap parts = (kids.take j).flatMap parts ++ parts u := by
  obtain ⟨hj, rfl⟩ := List.getElem?_eq_some_iff.1 h
  rw [List.take_succ_eq_append_getElem hj, List.flatMap_append, List.flatMap_cons, List.flatMap_nil, List.append_nil]
theorem pre_parts {n : Nat} (kids : List (Tm n)) (j : Nat) (u : Tm n) (h : kids[j]? = some u) : ((kids.take j).flatMap parts).length + (parts u).length ≤ (kids.flatMap parts).length := by
  have h1 : kids.flatMap parts = (kids.take (j + 1)).flatMap parts ++ (kids.drop (j + 1)).flatMap parts := by rw [← List.flatMap_append, List.take_append_drop]
  rw [h1, take_parts kids j u h]; simp only [List.length_append]; omega
theorem pre_parts' {n : Nat} (kids : List (Tm n)) (j : Nat) (u : Tm n) (h : kids[j]? = some u) (q : List TV) (hq : q <+: parts u) : (kids.take j).flatMap parts ++ q <+: kids.flatMap parts := by
  have h1 : kids.flatMap parts = (kids.take (j + 1)).flatMap parts ++ (kids.drop (j + 1)).flatMap parts := by rw [← List.flatMap_append, List.take_append_drop]
  obtain ⟨r, hr⟩ := hq
  rw [h1, take_parts kids j u h, ← hr]
  exact ⟨r ++ (kids.drop (j + 1)).flatMap parts, by simp⟩

set_option maxRecDepth 100000 in
set_option maxHeartbeats 1000000 in
/-- 'walk': all parts come, in their order; or a round has said 'no more'. -/
theorem walk_in (F : Fence) (hd : F.depth = none) (h35 : F.fn 52) (hro : F.round = none) (l n₀ n₁ N : Nat) (J Jx : List TV → World → Prop) (Ba : Nat) (hJ : AbidesFrom Ba J)
    (hY : ∀ m pre x W, J pre W → pre.length < N → YieldAt F m Try.prog l #[TV.val x] W fun e W' =>
      (e = .returned (.bool true) ∧ J (pre ++ [x]) W' ∧ Kp n₀ n₁ W W') ∨ (e = .returned (.bool false) ∧ Jx (pre ++ [x]) W')) :
    ∀ (n : Nat) (t : Tm n) (m : Nat) (pre : List TV) (W : World), IsT n₀ W t → n₁ ≤ W.heap.size → J pre W → pre.length + (parts t).length ≤ N →
      CallsIn F m Try.prog 52 #[t.tv.val, .func (.yield l) #[] #[]] W fun e W' =>
        (e = .returned (.bool true) ∧ J (pre ++ parts t) W' ∧ Kp n₀ n₁ W W') ∨ (e = .returned (.bool false) ∧ ∃ q, q <+: parts t ∧ Jx (pre ++ q) W') := by
  intro n
  induction n with
  | zero => intro t; exact Empty.elim t
  | succ n ih =>
    intro t m pre W ht hn hj0 hN
    obtain ⟨⟨k, kN, s, a, len, cap⟩, kids⟩ := t
    obtain ⟨hlen, hmax, hsm, hkids⟩ := ht
    simp only [Tm.tv, Tm.kids, parts] at hlen hmax hsm hkids hN ⊢
    simp only [List.length_cons] at hN
    have hl1 : len ≤ kids.length := by omega
    have hl2 : kids.length ≤ len := by omega
    clear hlen
    have hdd : ∀ k : Nat, (F.depth.isSome = true → 1 ≤ k) := fun k h => by rw [hd] at h; cases h
    have hallo : ∀ pre W o, J pre W → J pre (W.alloc o) := fun pre W o h => hJ pre W _ none h (World.grownBy_alloc W o none) (fun r e => by cases e)
    have hy1 := hY (m - 1) pre ⟨k, kN, s, a, len, cap⟩ (W.alloc (.cells #[.int .i64 k, .int .i64 kN, .string s, .slice a len cap] 24)) (hallo _ _ _ hj0) (by omega)
    have HL := hide hallo
    clear hallo
    have HI := hide ih
    clear ih
    simp only [TV.val] at hy1 ⊢
    obtain ⟨fn, tmps, assign, body, hy, hR⟩ := hy1
    refine callsIn_of_wp Try.func52 rfl h35 ?_ hro
    simp only [Try.ntmps52, List.size_toArray, List.length_cons, List.length_nil, Nat.reduceAdd, Nat.reduceSub, Array.replicate_succ, Array.replicate_zero, List.push_toArray, List.append_toArray, List.nil_append, List.cons_append]
    gi_wp2
    refine hR.mono ?_
    clear hR hy
    rintro e W1 (⟨rfl, hJ1, hk1⟩ | ⟨rfl, hx1⟩)
    · have hz : W.heap.size < W1.heap.size := by have := hk1.size; simp at this; omega
      have hc : W1.cell? ⟨W.heap.size, 3, none⟩ = some (.slice a len cap) := by
        have hown := hk1.own hn (World.alloc_heap_new W (.cells #[.int .i64 k, .int .i64 kN, .string s, .slice a len cap] 24))
        simp [World.cell?, hown]
      have hkW : Kp n₀ n₁ W W1 := ((Kp.refl _ _ W).alloc _).trans hk1
      clear hk1
      gi_wp2
      clear hc
      gi_loopw [14] (fun i wr => ∃ j : Nat, j ≤ len ∧ i = .int .i64 j ∧ J (pre ++ ⟨k, kN, s, a, len, cap⟩ :: (kids.take j).flatMap parts) wr ∧ Kp n₀ n₁ W wr) (fun i _ => len - (intOf i).toNat)
      case atStart => exact ⟨0, Nat.zero_le _, rfl, by simpa using hJ1, hkW⟩
      case round =>
        obtain ⟨j, hj, rfl, hJj, hkj⟩ := hrel
        clear hz hkW hJ1
        by_cases hlt : j < len
        · obtain ⟨u, hu⟩ : ∃ u, kids[j]? = some u := ⟨kids[j]'(by omega), List.getElem?_eq_getElem (by omega)⟩
          have hne : kids ≠ [] := by rintro rfl; simp at hu
          obtain ⟨b, off, rfl, hb, hk⟩ := hkids.resolve_left hne
          obtain ⟨⟨c0, c1, c2, c3⟩, hT⟩ := hk j u hu
          replace c0 := hkj.cell hb c0
          replace c1 := hkj.cell hb c1
          replace c2 := hkj.cell hb c2
          replace c3 := hkj.cell hb c3
          have hpp := pre_parts kids j u hu
          have ihu := (unhide HI) u (m - 1) _ (wr.alloc (.cells #[.int .i64 u.tv.k, .int .i64 u.tv.N, .string u.tv.s, .slice u.tv.a u.tv.len u.tv.cap] 24)) ((hT.kp hkj).kp (n₁ := n₁) ((Kp.refl _ _ wr).alloc _)) (by have := hkj.size; simp; omega) ((unhide HL) _ _ _ hJj) (by simp only [List.length_append, List.length_cons]; omega)
          have HU := hide hu
          have HHT := hide hT
          have HK := hide hk
          clear hT hk hkids hu hne
          simp only [TV.val] at ihu
          gi_wp2_with ((try refine ⟨hdd _, ?_⟩); gi_at_call 52; refine ihu.mono ?_; clear ihu; rintro e W2 (⟨rfl, hJ2, hk2⟩ | ⟨rfl, q, hq, hx2⟩))
          · go_roundw
            case rel => exact ⟨j + 1, by omega, by go_num, by rw [take_parts kids j u (unhide HU)]; simpa using hJ2, hkj.trans (((Kp.refl _ _ wr).alloc _).trans hk2)⟩
            case measure => simp [intOf]; omega
          · go_ret
            refine .inr ⟨rfl, _ :: ((kids.take j).flatMap parts ++ q), ?_, by simpa using hx2⟩
            exact (List.cons_prefix_cons).2 ⟨rfl, pre_parts' kids j _ (unhide HU) q hq⟩
        · gi_wp2
          go_ret
          have : kids.take j = kids := List.take_of_length_le (by omega)
          rw [this] at hJj
          exact .inl ⟨rfl, hJj, hkj⟩
    · gi_wp2
      go_ret
      exact .inr ⟨rfl, [⟨k, kN, s, a, len, cap⟩], by simp, hx1⟩
end Go.Proofs.Ytdjlekcapfeniaa

