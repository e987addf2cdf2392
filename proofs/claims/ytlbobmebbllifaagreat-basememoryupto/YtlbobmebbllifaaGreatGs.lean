import Derived.Test.YtlbobmebbllifaaGreatF
import Derived.Test.YtlbobmebbllifaaGreatKs
import Derived.Shelf.Strings.Split
import Derived.Test.YtlbobmebbllifaaGreatProg
import Derived.WalkKit
import Derived.WalkLawsBesides
import Derived.WalkSpells
import Derived.Below
import Derived.Shelf.Abstract
import Derived.Shelf.RegionOpen
import Derived.Maps.RangeWalk
import Derived.Maps.OwnSet
import Derived.Maps.Views
import Derived.StringKeys
import Derived.Deep.RegionHeld3
import Derived.RangeFuncBox
import Derived.Carry
/- The contract of hornref.Same: it answers sameT of two terms; nothing that lay is changed. -/
namespace Go.Proofs.YtlbobmebbllifaaGreat
open Go.RowKit Go.Shelf
theorem ret_bool {a b : Bool} (h : a = b) : Ending.returned (.bool a) = .returned (.bool b) := by rw [h]
theorem all2_stop {α : Type} {f : α → α → Bool} : ∀ (a b : List α) (j : Nat) (u v : α), a[j]? = some u → b[j]? = some v → f u v = false → all2 f a b = false := by
 intro a
 induction a with
 | nil => intro b j u v h; simp at h
 | cons x a ih =>
  intro b j u v hu hv hne
  cases b with
  | nil => simp at hv
  | cons y b =>
   cases j with
   | zero => simp at hu hv; subst hu; subst hv; simp [all2, hne]
   | succ j =>
    simp only [List.getElem?_cons_succ] at hu hv
    simp [all2, ih b j u v hu hv hne]
theorem all2_next {α : Type} {f : α → α → Bool} : ∀ (a b : List α) (j : Nat) (u v : α), a[j]? = some u → b[j]? = some v → all2 f (a.take j) (b.take j) = true → f u v = true → all2 f (a.take (j + 1)) (b.take (j + 1)) = true := by
 intro a
 induction a with
 | nil => intro b j u v h; simp at h
 | cons x a ih =>
  intro b j u v hu hv h hne
  cases b with
  | nil => simp at hv
  | cons y b =>
   cases j with
   | zero => simp at hu hv; subst hu; subst hv; simp [all2, hne]
   | succ j =>
    simp only [List.take_succ_cons, all2, Bool.and_eq_true] at h ⊢
    simp only [List.getElem?_cons_succ] at hu hv
    exact ⟨h.1, by simpa using ih b j u v hu hv h.2 hne⟩
set_option maxRecDepth 100000 in
set_option maxHeartbeats 1000000 in
theorem same_any : ∀ (n : Nat) (x y : Tm n) (w : World), IsT w.heap.size w x → IsT w.heap.size w y → Calls Tryz.prog 12 #[x.tv.val, y.tv.val] w fun e W' => e = .returned (.bool (sameT x y)) ∧ Below w.heap.size w W' := by
 intro n
 induction n with
 | zero => intro t; exact Empty.elim t
 | succ n ih =>
  intro x y w hx hy
  obtain ⟨⟨k, kN, s, a, len, cap⟩, kids⟩ := x
  obtain ⟨⟨k', kN', s', a', len', cap'⟩, kids'⟩ := y
  obtain ⟨hlen, hmax, hsm, hkids⟩ := hx
  obtain ⟨hlen', hmax', hsm', hkids'⟩ := hy
  simp only [Tm.tv, Tm.kids] at hlen hmax hsm hkids hlen' hmax' hsm' hkids'
  have HI := hide ih
  clear ih
  simp only [TV.val, Tm.tv, sameT, Tm.kids]
  cases hst : stop ⟨k, kN, s, a, len, cap⟩ ⟨k', kN', s', a', len', cap'⟩ with
  | false =>
   rw [Bool.false_and]
   have HS := hide hst
   clear hst hkids hkids' hlen hlen' HI
   go_enter Tryz.func12, Tryz.ntmps12
   go_wp2_with fail
   all_goals first | (go_ret; exact ⟨rfl, ((Below.refl _ w).alloc (Nat.le_refl _) _).alloc (by simp) _⟩) | skip
   exfalso
   have h := unhide HS
   clear HS
   have h1 : k = k' := by assumption
   have h2 : kN = kN' := by assumption
   have h3 : s.toList = s'.toList := by assumption
   have h4 : ((len : Int) != (len' : Int)) = false := by assumption
   simp at h4
   have h5 : len = len' := by omega
   simp [stop, h1, h2, h3, h5] at h
  | true =>
   rw [Bool.true_and]
   simp [stop] at hst
   obtain ⟨rfl, rfl, hs, hlq⟩ := hst
   have hl1 : len ≤ kids.length := by omega
   have hl2 : kids.length ≤ len := by omega
   have hl3 : len ≤ kids'.length := by omega
   have hl4 : kids'.length ≤ len := by omega
   have hl5 : (len : Int) ≤ len' := by omega
   have hl6 : ((len : Int) != (len' : Int)) = false := by simp; omega
   clear hlq hlen hlen'
   go_enter Tryz.func12, Tryz.ntmps12
   go_wp2_with fail
   obtain ⟨W1, hW1⟩ : ∃ W1, (w.alloc (.cells #[.int .i64 k, .int .i64 kN, .string s, .slice a len cap] 24)).alloc (.cells #[.int .i64 k, .int .i64 kN, .string s', .slice a' len' cap'] 24) = W1 := ⟨_, rfl⟩
   have hBB := Below.refl ((w.alloc (.cells #[.int .i64 k, .int .i64 kN, .string s, .slice a len cap] 24)).alloc (.cells #[.int .i64 k, .int .i64 kN, .string s', .slice a' len' cap'] 24)).heap.size ((w.alloc (.cells #[.int .i64 k, .int .i64 kN, .string s, .slice a len cap] 24)).alloc (.cells #[.int .i64 k, .int .i64 kN, .string s', .slice a' len' cap'] 24))
   obtain ⟨⟨hb1, hzz⟩, hcc, hcd⟩ := two_boxes hBB
   clear hBB
   rw [hW1] at hb1 hzz hcc hcd ⊢
   clear hW1
   go_loopw [5] (fun i wr => ∃ j : Nat, j ≤ len ∧ i = .int .i64 j ∧ all2 sameT (kids.take j) (kids'.take j) = true ∧ Below W1.heap.size W1 wr) (fun i _ => len - (intOf i).toNat)
   case atStart => exact ⟨0, Nat.zero_le _, rfl, by simp [all2], Below.refl _ _⟩
   case round =>
    obtain ⟨j, hj, rfl, ho, hb⟩ := hrel
    have hbw : Below w.heap.size w wr := hb1.trans (hb.mono (by omega))
    have HO := hide ho
    clear ho
    replace hcc := (hb.cell (p := ⟨w.heap.size, 3, none⟩) (by simp; omega)).trans hcc
    replace hcd := (hb.cell (p := ⟨w.heap.size + 1, 3, none⟩) (by simp; omega)).trans hcd
    by_cases hlt : j < len
    ·obtain ⟨u, b, off, hu, rfl, ⟨c0, c1, c2, c3⟩, hT, hbk⟩ := kid_at hkids hbw hlt hl1
     obtain ⟨v, b', off', hv, rfl, ⟨d0, d1, d2, d3⟩, hT', hbk'⟩ := kid_at hkids' hbw hlt hl3
     have hj1 : (j : Int) < len := by omega
     have hj2 : (j : Int) < len' := by omega
     have ihu : Calls Tryz.prog 12 #[.agg #[.int .i64 u.tv.k, .int .i64 u.tv.N, .string u.tv.s, .slice u.tv.a u.tv.len u.tv.cap], .agg #[.int .i64 v.tv.k, .int .i64 v.tv.N, .string v.tv.s, .slice v.tv.a v.tv.len v.tv.cap]] wr.drew fun e W2 => e = .returned (.bool (sameT u v)) ∧ Below wr.heap.size wr W2 :=
      ((unhide HI) u v wr.drew (hT.below (Below.refl _ wr).drew) (hT'.below (Below.refl _ wr).drew)).mono fun e W2 h => ⟨h.1, (Below.refl _ wr).drew.trans h.2⟩
     have hy1 : w.heap.size < wr.heap.size := by have := hb.size; omega
     have hy2 : w.heap.size + 1 < wr.heap.size := by have := hb.size; omega
     have hy3 : b < wr.heap.size := by omega
     have hy4 : b' < wr.heap.size := by omega
     have hstop := all2_stop (f := sameT) kids kids' j u v hu hv
     have hnext := all2_next (f := sameT) kids kids' j u v hu hv (unhide HO)
     clear hkids hkids' hT hT' hu hv
     generalize sameT u v = d at *
     have HN := hide hnext
     have HS := hide hstop
     clear hnext hstop
     cases d with
     | true =>
      go_wp2_with fail
      go_region_held3 (fun w' => w'.cell? ⟨w.heap.size, 3, none⟩ = some (.slice (some ⟨b, off, none⟩) len cap) ∧ w'.cell? ⟨w.heap.size + 1, 3, none⟩ = some (.slice (some ⟨b', off', none⟩) len' cap')
       ∧ w'.cell? ⟨b, off + j * 4, none⟩ = some (.int .i64 u.tv.k) ∧ w'.cell? ⟨b, off + j * 4 + 1, none⟩ = some (.int .i64 u.tv.N) ∧ w'.cell? ⟨b, off + j * 4 + 2, none⟩ = some (.string u.tv.s) ∧ w'.cell? ⟨b, off + j * 4 + 3, none⟩ = some (.slice u.tv.a u.tv.len u.tv.cap)
       ∧ w'.cell? ⟨b', off' + j * 4, none⟩ = some (.int .i64 v.tv.k) ∧ w'.cell? ⟨b', off' + j * 4 + 1, none⟩ = some (.int .i64 v.tv.N) ∧ w'.cell? ⟨b', off' + j * 4 + 2, none⟩ = some (.string v.tv.s) ∧ w'.cell? ⟨b', off' + j * 4 + 3, none⟩ = some (.slice v.tv.a v.tv.len v.tv.cap)) (go_keep)
       (first | (go_at_call 12; refine ihu.mono ?_; clear ihu; rintro e W2 ⟨rfl, hb2⟩; have hbc := bcell hb2))
      go_wp2_with fail
      go_roundw
      case rel => exact ⟨j + 1, by omega, by go_num, (unhide HN) (by simp), hb.trans (hb2.mono hb.size)⟩
      case measure => simp [intOf]; omega
     | false =>
      go_wp2_with fail
      go_region_held3 (fun w' => w'.cell? ⟨w.heap.size, 3, none⟩ = some (.slice (some ⟨b, off, none⟩) len cap) ∧ w'.cell? ⟨w.heap.size + 1, 3, none⟩ = some (.slice (some ⟨b', off', none⟩) len' cap')
       ∧ w'.cell? ⟨b, off + j * 4, none⟩ = some (.int .i64 u.tv.k) ∧ w'.cell? ⟨b, off + j * 4 + 1, none⟩ = some (.int .i64 u.tv.N) ∧ w'.cell? ⟨b, off + j * 4 + 2, none⟩ = some (.string u.tv.s) ∧ w'.cell? ⟨b, off + j * 4 + 3, none⟩ = some (.slice u.tv.a u.tv.len u.tv.cap)
       ∧ w'.cell? ⟨b', off' + j * 4, none⟩ = some (.int .i64 v.tv.k) ∧ w'.cell? ⟨b', off' + j * 4 + 1, none⟩ = some (.int .i64 v.tv.N) ∧ w'.cell? ⟨b', off' + j * 4 + 2, none⟩ = some (.string v.tv.s) ∧ w'.cell? ⟨b', off' + j * 4 + 3, none⟩ = some (.slice v.tv.a v.tv.len v.tv.cap)) (go_keep)
       (first | (go_at_call 12; refine ihu.mono ?_; clear ihu; rintro e W2 ⟨rfl, hb2⟩; have hbc := bcell hb2))
      go_wp2_with fail
      go_ret
      exact ⟨ret_bool ((unhide HS) (by simp)).symm, hbw.trans (hb2.mono hbw.size)⟩
    ·have ht : kids.take j = kids := List.take_of_length_le (by omega)
     have ht' : kids'.take j = kids' := List.take_of_length_le (by omega)
     have HT := hide ht
     have HT' := hide ht'
     clear ht ht' hkids hkids'
     go_wp2_with fail
     go_ret
     exact ⟨ret_bool (by have h := unhide HO; rw [unhide HT, unhide HT'] at h; rw [h]), hbw⟩
/- Atoms, integers and compounds that hornref makes; boxes of terms; Same by codes. -/
def atomV (s : ByteArray) : TV := ⟨3, 0, s, none, 0, 0⟩
def intV (n : Int) : TV := ⟨2, n, ⟨#[]⟩, none, 0, 0⟩
def compV (s : ByteArray) (a : Option Addr) (len cap : Nat) : TV := ⟨4, 0, s, a, len, cap⟩
def noTerm : TV := ⟨0, 0, ⟨#[]⟩, none, 0, 0⟩
def atomC (s : List UInt8) : List Nd := [(3, 0, s, 0)]
def intC (n : Int) : List Nd := [(2, n, [], 0)]
theorem tv_inj {x y : TV} (h : x.val = y.val) : x = y := by
 cases x; cases y
 simp [TV.val] at h
 simp_all
theorem int_holds (n : Int) (lo : Nat) (W : World) : HoldsT 1 lo W (intV n).val (intC n) := by
 have h := holds_leaf (intV n) rfl rfl rfl (by show (0 : Nat) ≤ _; omega) lo W
 have e : (intV n).nd = (2, n, [], 0) := by simp [TV.nd, intV]
 rw [e] at h
 exact h
set_option maxHeartbeats 400000 in
theorem ratom_any (s : ByteArray) (w : World) : Calls Tryz.prog 20 #[.string s] w fun e W' => e = .returned (atomV s).val ∧ Below w.heap.size w W' := by
 go_enter Tryz.func20, Tryz.ntmps20
 go_wp2
 refine bodyPost_ret (v := (atomV s).val) (by simp [results, Tryz.results20, go_sem, atomV, TV.val]) rfl ⟨rfl, (Below.refl _ _).alloc (Nat.le_refl _) _⟩
theorem box_zero (W : World) (x : TV) : ∃ W2, (W.alloc (.cells #[.int .i64 x.k, .int .i64 x.N, .string x.s, .slice x.a x.len x.cap] 24)).alloc (.cells #[.int .i64 0, .int .i64 0, .string ⟨#[]⟩, .slice none 0 0] 24) = W2 ∧
  Below W.heap.size W W2 ∧ W2.heap.size = W.heap.size + 2 ∧ BoxT W2 W.heap.size x ∧ W2.heap[W.heap.size + 1]? = some (.cells #[.int .i64 0, .int .i64 0, .string ⟨#[]⟩, .slice none 0 0] 24 (0, 0)) := by
 refine ⟨_, rfl, ((Below.refl _ W).alloc (Nat.le_refl _) _).alloc (by simp) _, by simp, (BoxT.new W x).alloc _, ?_⟩
 have h := World.alloc_heap_new (W.alloc (.cells #[.int .i64 x.k, .int .i64 x.N, .string x.s, .slice x.a x.len x.cap] 24)) (.cells #[.int .i64 0, .int .i64 0, .string ⟨#[]⟩, .slice none 0 0] 24)
 rw [World.size_alloc] at h
 exact h
theorem BoxT.frz {W : World} {B : Nat} {x : TV} (h : BoxT W B x) : W.frozen? ⟨B, 0, none⟩ = false ∧ W.frozen? ⟨B, 1, none⟩ = false ∧ W.frozen? ⟨B, 2, none⟩ = false ∧ W.frozen? ⟨B, 3, none⟩ = false := (zbox_kept h).2
theorem BoxT.below {A B : World} {n k : Nat} {x : TV} (h : BoxT A k x) (hb : Below n A B) (hk : k < n) : BoxT B k x := (hb.block k hk).trans h
def noC : List Nd := [(0, 0, [], 0)]
theorem no_holds (D lo : Nat) (hD : 1 ≤ D) (W : World) : HoldsT D lo W noTerm.val noC := by
 have h := holds_leaf noTerm rfl rfl rfl (by show (0 : Nat) ≤ _; omega) lo W
 have e : noTerm.nd = (0, 0, [], 0) := by simp [TV.nd, noTerm]
 rw [e] at h
 exact h.mono hD (Nat.le_refl _)
theorem box2_only (W : World) (x y : TV) : ∃ W3, (W.alloc (.cells #[.int .i64 x.k, .int .i64 x.N, .string x.s, .slice x.a x.len x.cap] 24)).alloc (.cells #[.int .i64 y.k, .int .i64 y.N, .string y.s, .slice y.a y.len y.cap] 24) = W3 ∧
  Below W.heap.size W W3 ∧ W3.heap.size = W.heap.size + 2 ∧ BoxT W3 W.heap.size x ∧ BoxT W3 (W.heap.size + 1) y := by
 refine ⟨_, rfl, ((Below.refl _ W).alloc (Nat.le_refl _) _).alloc (by simp) _, by simp, (BoxT.new W x).alloc _, ?_⟩
 have h := BoxT.new (W.alloc (.cells #[.int .i64 x.k, .int .i64 x.N, .string x.s, .slice x.a x.len x.cap] 24)) y
 rw [World.size_alloc] at h
 exact h
/- Laid by the kit's own shelf_lay and written out. -/
/- Operators: an operator's cells (OV); the contracts of text.mayBeOperator and text.prioritiesOf. -/
structure OV where
 name : ByteArray
 prio : Int
 type : Int
def OV.val (x : OV) : Value := .agg #[.string x.name, .int .i64 x.prio, .int .i64 x.type]
def mayB (s : ByteArray) : Bool := decide (¬ s.toList = [44] ∧ ¬ s.toList = [124] ∧ ¬ s.toList = [91, 93] ∧ ¬ s.toList = [123, 125] ∧ (s.size : Int) ≤ 100)
structure PV where
 own : Int
 left : Int
 right : Int
def PV.val (x : PV) : Value := .agg #[.int .i64 x.own, .int .i64 x.left, .int .i64 x.right]
def prioOf (k p : Int) : PV := ⟨p, if k = 3 then p else p - 1, if k = 2 ∨ k = 4 then p else p - 1⟩
/- A map from names to priorities that the call made (OpT): its names and priorities, in the order of their coming. -/
open Go.Maps
def prioElem (v : Value) : Option (DataW PV × List MemPlace) :=
 match v with
 | .agg cs => match cs.toList with
  | [.int .i64 a, .int .i64 b, .int .i64 c] => some (.held ⟨a, b, c⟩, [])
  | _ => none
 | _ => none
abbrev Names := List (List UInt8 × PV)
structure OpT (W : World) (b : Nat) (c : Names) : Prop where
 len : c.length ≤ 200
 map : ∃ E : DataW PV, W.ownsMap Tryz.prog 9 prioElem b c.length E ∧ (∀ s, Maps.has E (.string s) = true ↔ ∃ q ∈ c, q.1 = s) ∧ ∀ q ∈ c, ∀ z, E.atKey (.string q.1) z = .held q.2
/- The contract of operators.add. -/
def within (c : Names) (s : ByteArray) : Prop := ∃ q ∈ c, q.1 = s.data.toList
open Classical in
/-- What add makes of the names so far. -/
noncomputable def addN (c : Names × Names) (x : OV) : Option (Names × Names) :=
 if mayB x.name = true ∧ 1 ≤ x.prio ∧ x.prio ≤ 1200 then
  if x.type = 1 ∨ x.type = 2 ∨ x.type = 3 then if within c.1 x.name then none else some (c.1 ++ [(x.name.data.toList, prioOf x.type x.prio)], c.2)
  else if x.type = 4 ∨ x.type = 5 then if within c.2 x.name then none else some (c.1, c.2 ++ [(x.name.data.toList, prioOf x.type x.prio)])
  else none
 else none
/- Operators in a row (IsO); the contracts of text.tableOf and text.CheckOps. -/
def IsO (W : World) (a : Option Addr) (len : Nat) (l : List OV) : Prop :=
 len = l.length ∧ len ≤ 9223372036854775807 ∧ (l = [] ∨ ∃ b off, a = some ⟨b, off, none⟩ ∧ b < W.heap.size ∧ ∀ (j : Nat) x, l[j]? = some x → W.cell? ⟨b, off + j * 3, none⟩ = some (.string x.name) ∧ W.cell? ⟨b, off + j * 3 + 1, none⟩ = some (.int .i64 x.prio) ∧ W.cell? ⟨b, off + j * 3 + 2, none⟩ = some (.int .i64 x.type))
/-- What tableOf makes of a row of operators. -/
noncomputable def foldN : Names × Names → List OV → Option (Names × Names)
 | c, [] => some c
 | c, x :: r => (addN c x).bind (foldN · r)
noncomputable def tabN (l : List OV) : Option (Names × Names) := if 200 < l.length then none else foldN ([], []) l
/-- What CheckOps answers. -/
noncomputable def opsE (l : List OV) : Int := if (tabN l).isSome then 0 else 6
/- strings.Split at a blank: the contract. -/
/- hornref.Reserved. -/
def resN0 : List ByteArray := [⟨#[116, 114, 117, 101]⟩, ⟨#[102, 97, 105, 108]⟩, ⟨#[33]⟩, ⟨#[110, 108]⟩]
def resN1 : List ByteArray := [⟨#[92, 43]⟩, ⟨#[116, 104, 114, 111, 119]⟩, ⟨#[118, 97, 114]⟩, ⟨#[110, 111, 110, 118, 97, 114]⟩, ⟨#[97, 116, 111, 109]⟩, ⟨#[105, 110, 116, 101, 103, 101, 114]⟩, ⟨#[97, 116, 111, 109, 105, 99]⟩, ⟨#[99, 111, 109, 112, 111, 117, 110, 100]⟩, ⟨#[99, 97, 108, 108, 97, 98, 108, 101]⟩, ⟨#[103, 114, 111, 117, 110, 100]⟩, ⟨#[97, 115, 115, 101, 114, 116, 122]⟩, ⟨#[97, 115, 115, 101, 114, 116, 97]⟩, ⟨#[114, 101, 116, 114, 97, 99, 116]⟩, ⟨#[112, 114, 105, 110, 116]⟩, ⟨#[58, 45]⟩]
def resN2 : List ByteArray := [⟨#[44]⟩, ⟨#[59]⟩, ⟨#[45, 62]⟩, ⟨#[61]⟩, ⟨#[92, 61]⟩, ⟨#[61, 61]⟩, ⟨#[92, 61, 61]⟩, ⟨#[64, 60]⟩, ⟨#[64, 62]⟩, ⟨#[64, 61, 60]⟩, ⟨#[64, 62, 61]⟩, ⟨#[61, 46, 46]⟩, ⟨#[99, 111, 112, 121, 95, 116, 101, 114, 109]⟩, ⟨#[105, 115]⟩, ⟨#[61, 58, 61]⟩, ⟨#[61, 92, 61]⟩, ⟨#[60]⟩, ⟨#[62]⟩, ⟨#[61, 60]⟩, ⟨#[62, 61]⟩, ⟨#[97, 116, 111, 109, 95, 108, 101, 110, 103, 116, 104]⟩, ⟨#[97, 116, 111, 109, 95, 99, 104, 97, 114, 115]⟩, ⟨#[108, 101, 110, 103, 116, 104]⟩, ⟨#[115, 111, 114, 116]⟩, ⟨#[58, 45]⟩, ⟨#[45, 45, 62]⟩]
def resN3 : List ByteArray := [⟨#[99, 97, 116, 99, 104]⟩, ⟨#[102, 105, 110, 100, 97, 108, 108]⟩, ⟨#[99, 111, 109, 112, 97, 114, 101]⟩, ⟨#[102, 117, 110, 99, 116, 111, 114]⟩, ⟨#[97, 114, 103]⟩, ⟨#[98, 101, 116, 119, 101, 101, 110]⟩]
def resB (s : List UInt8) (n : Int) : Bool :=
 if s == [99, 97, 108, 108] then decide (1 ≤ n) && decide (n ≤ 8)
 else if n = 0 then resN0.any fun x => x.toList == s
 else if n = 1 then resN1.any fun x => x.toList == s
 else if n = 2 then resN2.any fun x => x.toList == s
 else if n = 3 then resN3.any fun x => x.toList == s
 else false
end Go.Proofs.YtlbobmebbllifaaGreat
