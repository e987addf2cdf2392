import Derived.Test.YtcdgmjpgmiehcaaTs
import Derived.Shelf.Strings.Split
import Derived.Test.YtcdgmjpgmiehcaaProg
import Derived.WalkKit
import Derived.WalkLawsBesides
import Derived.WalkSpells
import Derived.Below
import Derived.Shelf.Abstract
import Derived.Shelf.RegionOpen
import Derived.Maps.RangeWalk
import Derived.Maps.OwnSet
import Derived.Maps.Views
import Derived.StringKeys
import Derived.Deep.RegionHeld3
import Derived.RangeFuncBox
import Derived.Carry
/- hornref.Body of two bodies; whole. -/
namespace Go.Proofs.Ytcdgmjpgmiehcaa
open Go.RowKit Go.Shelf

theorem bodyC_succ {n : Nat} (x : TV) (kids : List (Tm n)) : bodyC (n := n + 1) ((x, kids) : TV × List (Tm n)) = if x.k = 1 then some ((4, 0, callL, 1) :: code (n := n + 1) ((x, kids) : TV × List (Tm n))) else if x.k = 2 then none else if junct x = true then bodyJ x.s.toList (kids.map bodyC) else some (code (n := n + 1) ((x, kids) : TV × List (Tm n))) := rfl
theorem junct_len {x : TV} (h : junct x = true) : x.len = 2 := by
  simp only [junct, isB, Bool.or_eq_true, Bool.and_eq_true, beq_iff_eq] at h
  rcases h with h | h | h
  · have := h.2.2; omega
  · have := h.2.2; omega
  · have := h.2.2; omega
end Go.Proofs.Ytcdgmjpgmiehcaa

/- Laid by the kit's own shelf_lay and written out. -/
namespace Go.Proofs.Ytcdgmjpgmiehcaa
open Go.Shelf

end Go.Proofs.Ytcdgmjpgmiehcaa

/- Operators: an operator's cells (OV); the contracts of text.mayBeOperator and text.prioritiesOf. -/
namespace Go.Proofs.Ytcdgmjpgmiehcaa
open Go.RowKit Go.Shelf

theorem hd {p : Prop} (h : p) : Hid p := h
theorem uh {p : Prop} (h : Hid p) : p := h
/-- An operator's three cells. -/
structure OV where
  name : ByteArray
  prio : Int
  type : Int
def OV.val (x : OV) : Value := .agg #[.string x.name, .int .i64 x.prio, .int .i64 x.type]

def mayB (s : ByteArray) : Bool := decide (¬ s.toList = [44] ∧ ¬ s.toList = [124] ∧ ¬ s.toList = [91, 93] ∧ ¬ s.toList = [123, 125] ∧ (s.size : Int) ≤ 100)
/-- An operator's priorities: its own, and the highest ones to its left and right. -/
structure PV where
  own : Int
  left : Int
  right : Int
def PV.val (x : PV) : Value := .agg #[.int .i64 x.own, .int .i64 x.left, .int .i64 x.right]
def prioOf (k p : Int) : PV := ⟨p, if k = 3 then p else p - 1, if k = 2 ∨ k = 4 then p else p - 1⟩
end Go.Proofs.Ytcdgmjpgmiehcaa

/- A map from names to priorities that the call made (OpT): its names and priorities, in the order of their coming. -/
namespace Go.Proofs.Ytcdgmjpgmiehcaa
open Go.RowKit Go.Shelf Go.Maps

/-- How priorities read as a map's element: as themselves. -/
def prioElem (v : Value) : Option (DataW PV × List MemPlace) :=
  match v with
  | .agg cs => match cs.toList with
    | [.int .i64 a, .int .i64 b, .int .i64 c] => some (.held ⟨a, b, c⟩, [])
    | _ => none
  | _ => none
theorem prioElem_mk (x : PV) : prioElem x.val = some (.held x, []) := by simp [prioElem, PV.val]
theorem prioElem_inv {v : Value} {z : DataW PV × List MemPlace} (h : prioElem v = some z) : ∃ x : PV, v = x.val ∧ z = (.held x, []) := by
  unfold prioElem at h
  split at h
  · split at h
    · rename_i cs _ a b c hcs
      simp only [Option.some.injEq] at h
      refine ⟨⟨a, b, c⟩, ?_, h.symm⟩
      simp only [PV.val, Value.agg.injEq]
      rw [← Array.toList_inj, hcs]
    · cases h
  · cases h
def zeroP : PV := ⟨0, 0, 0⟩
theorem Try.under9 : Try.prog.underlying 9 = some .string := by kernel_rfl
theorem Try.keyed9 : Keyed Try.prog 9 := string_keyed Try.under9
theorem key_s {s : ByteArray} (hs : s.size ≤ 100) : keyOf Try.prog 9 (.string s) = some (.string s.data.toList) := WideMaps.keyOf_string_mk Try.under9 (by unfold maxLen; omega)

abbrev Names := List (List UInt8 × PV)
/-- A map from names to priorities: in the order of their coming. -/
structure OpT (W : World) (b : Nat) (c : Names) : Prop where
  len : c.length ≤ 200
  map : ∃ E : DataW PV, W.ownsMap Try.prog 9 prioElem b c.length E ∧ (∀ s, Maps.has E (.string s) = true ↔ ∃ q ∈ c, q.1 = s) ∧ ∀ q ∈ c, ∀ z, E.atKey (.string q.1) z = .held q.2
theorem OpT.lt {W : World} {b : Nat} {c : Names} (h : OpT W b c) : b < W.heap.size := by
  obtain ⟨E, h1, _⟩ := h.map
  exact h1.lt
theorem OpT.made (W : World) : OpT (W.alloc (.map #[] 0)) W.heap.size [] :=
  ⟨by simp, .map [], World.ownsMap_made W Try.prog 9 prioElem, (fun N => by simp [Maps.has]), (fun q hq => by cases hq)⟩
theorem OpT.grown {W W' : World} {b : Nat} {c : Names} {row : Option Nat} (h : OpT W b c) (hb : W.grownBy W' row) (hne : some b ≠ row) : OpT W' b c := by
  obtain ⟨E, h1, h2, h3⟩ := h.map
  exact ⟨h.len, E, h1.kept hb hne, h2, h3⟩
theorem OpT.below {W W' : World} {b : Nat} {c : Names} (h : OpT W b c) (hb : Below W.heap.size W W') : OpT W' b c :=
  h.grown (row := none) ⟨hb.os, hb.tape, hb.output, hb.size, fun k hk _ => hb.block k hk⟩ (by simp)
end Go.Proofs.Ytcdgmjpgmiehcaa

/- The contract of operators.add. -/
namespace Go.Proofs.Ytcdgmjpgmiehcaa
open Go.RowKit Go.Shelf Go.Maps

/-- All but two blocks is as it was. -/
structure Kt (bi bp : Nat) (A B : World) : Prop where
  os : B.os = A.os
  tape : B.tape = A.tape
  output : B.output = A.output
  size : A.heap.size ≤ B.heap.size
  block : ∀ k, k < A.heap.size → k ≠ bi → k ≠ bp → B.heap[k]? = A.heap[k]?
theorem Kt.refl (bi bp : Nat) (A : World) : Kt bi bp A A := ⟨rfl, rfl, rfl, Nat.le_refl _, fun _ _ _ _ => rfl⟩
theorem Kt.trans {bi bp : Nat} {A B C : World} (h : Kt bi bp A B) (k : Kt bi bp B C) : Kt bi bp A C :=
  ⟨k.os.trans h.os, k.tape.trans h.tape, k.output.trans h.output, Nat.le_trans h.size k.size, fun i hi h1 h2 => (k.block i (Nat.lt_of_lt_of_le hi h.size) h1 h2).trans (h.block i hi h1 h2)⟩
theorem Kt.of_below {bi bp : Nat} {A B : World} (h : Below A.heap.size A B) : Kt bi bp A B := ⟨h.os, h.tape, h.output, h.size, fun k hk _ _ => h.block k hk⟩
theorem Kt.of_left {bi bp : Nat} {A B : World} (h : A.grownBy B (some bi)) : Kt bi bp A B := ⟨h.os, h.tape, h.output, h.size, fun k hk h1 _ => h.block k hk (by simp; exact h1)⟩
theorem Kt.of_right {bi bp : Nat} {A B : World} (h : A.grownBy B (some bp)) : Kt bi bp A B := ⟨h.os, h.tape, h.output, h.size, fun k hk _ h1 => h.block k hk (by simp; exact h1)⟩
theorem Kt.cell {bi bp : Nat} {A B : World} (h : Kt bi bp A B) {k o : Nat} (hk : k < A.heap.size) (h1 : k ≠ bi) (h2 : k ≠ bp) : B.cell? ⟨k, o, none⟩ = A.cell? ⟨k, o, none⟩ := World.cell?_of_block (a := ⟨k, o, none⟩) (h.block k hk h1 h2)

def within (c : Names) (s : ByteArray) : Prop := ∃ q ∈ c, q.1 = s.data.toList
open Classical in
/-- What add makes of the names so far. -/
noncomputable def addN (c : Names × Names) (x : OV) : Option (Names × Names) :=
  if mayB x.name = true ∧ 1 ≤ x.prio ∧ x.prio ≤ 1200 then
    if x.type = 1 ∨ x.type = 2 ∨ x.type = 3 then if within c.1 x.name then none else some (c.1 ++ [(x.name.data.toList, prioOf x.type x.prio)], c.2)
    else if x.type = 4 ∨ x.type = 5 then if within c.2 x.name then none else some (c.1, c.2 ++ [(x.name.data.toList, prioOf x.type x.prio)])
    else none
  else none
def AddSays (bi bp : Nat) (w : World) (r : Option (Names × Names)) (e : Ending) (W' : World) : Prop :=
  Kt bi bp w W' ∧ match r with
  | none => e = .returned (.bool false)
  | some d => e = .returned (.bool true) ∧ OpT W' bi d.1 ∧ OpT W' bp d.2

theorem cell_mid (w : World) (a d : Obj) (cs : Array Value) (T : TypeId) (o : Nat) (v : Value) (h : cs[o]? = some v) : (((w.alloc a).alloc (.cells cs T)).alloc d).cell? ⟨w.heap.size + 1, o, none⟩ = some v := by
  rw [((Below.refl _ ((w.alloc a).alloc (.cells cs T))).alloc (Nat.le_refl _) d).cell (p := ⟨w.heap.size + 1, o, none⟩) (by simp)]
  have e : w.heap.size + 1 = (w.alloc a).heap.size := by simp
  rw [e]
  simp [h]
theorem mayB_size {s : ByteArray} (h : mayB s = true) : s.size ≤ 100 := by simp [mayB] at h; omega
theorem le1200 {p : Int} (h : ¬ p ≤ 1200) : decide (1200 < p) = true := by simp; omega

end Go.Proofs.Ytcdgmjpgmiehcaa

/- Operators in a row (IsO); the contracts of text.tableOf and text.CheckOps. -/
namespace Go.Proofs.Ytcdgmjpgmiehcaa
open Go.RowKit Go.Shelf Go.Maps

/-- Operators that lie in a row. -/
def IsO (W : World) (a : Option Addr) (len : Nat) (l : List OV) : Prop :=
  len = l.length ∧ len ≤ 9223372036854775807 ∧ (l = [] ∨ ∃ b off, a = some ⟨b, off, none⟩ ∧ b < W.heap.size ∧ ∀ (j : Nat) x, l[j]? = some x → W.cell? ⟨b, off + j * 3, none⟩ = some (.string x.name) ∧ W.cell? ⟨b, off + j * 3 + 1, none⟩ = some (.int .i64 x.prio) ∧ W.cell? ⟨b, off + j * 3 + 2, none⟩ = some (.int .i64 x.type))
theorem IsO.below {W W' : World} {a : Option Addr} {len : Nat} {l : List OV} (h : IsO W a len l) (hb : Below W.heap.size W W') : IsO W' a len l := by
  obtain ⟨h1, h2, h3⟩ := h
  refine ⟨h1, h2, ?_⟩
  rcases h3 with h3 | ⟨b, off, ha, hlt, hk⟩
  · exact .inl h3
  · refine .inr ⟨b, off, ha, Nat.lt_of_lt_of_le hlt hb.size, fun j x hj => ?_⟩
    obtain ⟨k0, k1, k2⟩ := hk j x hj
    exact ⟨(hb.cell (p := ⟨b, _, none⟩) hlt).trans k0, (hb.cell (p := ⟨b, _, none⟩) hlt).trans k1, (hb.cell (p := ⟨b, _, none⟩) hlt).trans k2⟩
/-- The j-th operator. -/
theorem op_at {w wr : World} {a : Option Addr} {len : Nat} {l : List OV} (h : IsO w a len l) (hb : Below w.heap.size w wr) {j : Nat} (hj : j < len) : ∃ s p t b off, l[j]? = some ⟨s, p, t⟩ ∧ a = some ⟨b, off, none⟩ ∧ b < w.heap.size ∧ wr.cell? ⟨b, off + j * 3, none⟩ = some (.string s) ∧ wr.cell? ⟨b, off + j * 3 + 1, none⟩ = some (.int .i64 p) ∧ wr.cell? ⟨b, off + j * 3 + 2, none⟩ = some (.int .i64 t) := by
  obtain ⟨h1, _, h3⟩ := h
  obtain ⟨x, hx⟩ : ∃ x, l[j]? = some x := ⟨l[j]'(by omega), List.getElem?_eq_getElem (by omega)⟩
  have hne : l ≠ [] := by rintro rfl; simp at hx
  obtain ⟨b, off, ha, hlt, hk⟩ := h3.resolve_left hne
  obtain ⟨k0, k1, k2⟩ := hk j x hx
  exact ⟨x.name, x.prio, x.type, b, off, hx, ha, hlt, (hb.cell (p := ⟨b, _, none⟩) hlt).trans k0, (hb.cell (p := ⟨b, _, none⟩) hlt).trans k1, (hb.cell (p := ⟨b, _, none⟩) hlt).trans k2⟩

/-- What tableOf makes of a row of operators. -/
noncomputable def foldN : Names × Names → List OV → Option (Names × Names)
  | c, [] => some c
  | c, x :: r => (addN c x).bind (foldN · r)
theorem foldN_snoc : ∀ (l : List OV) (c : Names × Names) (x : OV), foldN c (l ++ [x]) = (foldN c l).bind (addN · x)
  | [], c, x => by
    simp only [List.nil_append, foldN, Option.bind_some]
    cases addN c x <;> rfl
  | y :: l, c, x => by
    simp only [List.cons_append, foldN]
    cases addN c y with
    | none => rfl
    | some d => simp only [Option.bind_some]; exact foldN_snoc l d x
theorem foldN_none : ∀ (l r : List OV) (c : Names × Names), foldN c l = none → foldN c (l ++ r) = none
  | [], r, c, h => by simp [foldN] at h
  | y :: l, r, c, h => by
    simp only [List.cons_append, foldN] at *
    cases hy : addN c y with
    | none => rfl
    | some d => rw [hy] at h; simp only [Option.bind_some] at *; exact foldN_none l r d h
theorem addN_len {c d : Names × Names} {x : OV} (h : addN c x = some d) : d.1.length + d.2.length = c.1.length + c.2.length + 1 := by
  unfold addN at h
  split at h
  · split at h
    · split at h
      · cases h
      · cases h; simp; omega
    · split at h
      · split at h
        · cases h
        · cases h; simp; omega
      · cases h
  · cases h
theorem foldN_len : ∀ (l : List OV) (c d : Names × Names), foldN c l = some d → d.1.length + d.2.length = c.1.length + c.2.length + l.length
  | [], c, d, h => by simp [foldN] at h; subst h; simp
  | y :: l, c, d, h => by
    simp only [foldN] at h
    cases hy : addN c y with
    | none => rw [hy] at h; cases h
    | some e => rw [hy] at h; have h1 := foldN_len l e d h; have h2 := addN_len hy; simp; omega
noncomputable def tabN (l : List OV) : Option (Names × Names) := if 200 < l.length then none else foldN ([], []) l
theorem take_snoc {α : Type} {l : List α} {j : Nat} {x : α} (h : l[j]? = some x) : l.take (j + 1) = l.take j ++ [x] := by
  rw [List.take_add_one, h]; rfl

/-- Two cells of the call's own. -/
def Box2 (W : World) (B : Nat) (T : TypeId) (a b : Value) : Prop := W.heap[B]? = some (.cells #[a, b] T (0, 0))
theorem Box2.lt {W : World} {B : Nat} {T : TypeId} {a b : Value} (h : Box2 W B T a b) : B < W.heap.size := (Array.getElem?_eq_some_iff.1 h).1
theorem Box2.c0 {W : World} {B : Nat} {T : TypeId} {a b : Value} (h : Box2 W B T a b) : W.cell? ⟨B, 0, none⟩ = some a := by simp [World.cell?, show W.heap[B]? = _ from h]
theorem Box2.c1 {W : World} {B : Nat} {T : TypeId} {a b : Value} (h : Box2 W B T a b) : W.cell? ⟨B, 1, none⟩ = some b := by simp [World.cell?, show W.heap[B]? = _ from h]
theorem Box2.f0 {W : World} {B : Nat} {T : TypeId} {a b : Value} (h : Box2 W B T a b) : W.frozen? ⟨B, 0, none⟩ = false := by simp [World.frozen?, show W.heap[B]? = _ from h]
theorem Box2.f1 {W : World} {B : Nat} {T : TypeId} {a b : Value} (h : Box2 W B T a b) : W.frozen? ⟨B, 1, none⟩ = false := by simp [World.frozen?, show W.heap[B]? = _ from h]
theorem Box2.new (W : World) (T : TypeId) (a b : Value) : Box2 (W.alloc (.cells #[a, b] T)) W.heap.size T a b := World.alloc_heap_new W _
theorem Box2.kt {W W' : World} {B bi bp : Nat} {T : TypeId} {a b : Value} (h : Box2 W B T a b) (hk : Kt bi bp W W') (h1 : B ≠ bi) (h2 : B ≠ bp) : Box2 W' B T a b := (hk.block B h.lt h1 h2).trans h
theorem Box2.below {W W' : World} {B : Nat} {T : TypeId} {a b : Value} (h : Box2 W B T a b) (hb : Below W.heap.size W W') : Box2 W' B T a b := (hb.block B h.lt).trans h

theorem OpT.set2 {W : World} {b B : Nat} {c : Names} (h : OpT W b c) (hne : b ≠ B) (u v : Value) : OpT ((W.setCell ⟨B, 0, none⟩ u).setCell ⟨B, 1, none⟩ v) b c := by
  obtain ⟨E, h1, h2, h3⟩ := h.map
  exact ⟨h.len, E, (h1.setCell (a := ⟨B, 0, none⟩) hne u).setCell (a := ⟨B, 1, none⟩) hne v, h2, h3⟩
/-- What tableOf answers. -/
def TabSays (w : World) (r : Option (Names × Names)) (e : Ending) (W' : World) : Prop :=
  Below w.heap.size w W' ∧ match r with
  | none => e = .returned (.tuple #[.agg #[.map none, .map none], .int .i64 6])
  | some c => ∃ bi bp, e = .returned (.tuple #[.agg #[.map (some bi), .map (some bp)], .int .i64 0]) ∧ bi ≠ bp ∧ w.heap.size ≤ bi ∧ w.heap.size ≤ bp ∧ OpT W' bi c.1 ∧ OpT W' bp c.2

/-- What CheckOps answers. -/
noncomputable def opsE (l : List OV) : Int := if (tabN l).isSome then 0 else 6
end Go.Proofs.Ytcdgmjpgmiehcaa

