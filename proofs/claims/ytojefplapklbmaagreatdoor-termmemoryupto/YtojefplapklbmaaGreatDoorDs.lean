import Derived.Test.YtojefplapklbmaaGreatDoorC
import Derived.Outline
import Derived.Test.YtojefplapklbmaaGreatDoorAs
import Derived.WalkLawsBesides
namespace Go.Proofs.YtojefplapklbmaaGreatDoor
open Go.RowKit Go.Shelf

theorem okT_succ {n : Nat} (x : TV) (kids : List (Tm n)) : okT (n := n + 1) (x, kids) = (x.ok && kids.all okT) := by
  show (x :: kids.flatMap parts).all TV.ok = _
  rw [List.all_cons, List.all_flatMap]; rfl

theorem take_all {n : Nat} (kids : List (Tm n)) (j : Nat) (u : Tm n) (h : kids[j]? = some u) : (kids.take (j + 1)).all okT = ((kids.take j).all okT && okT u) := by
  obtain ⟨hj, rfl⟩ := List.getElem?_eq_some_iff.1 h
  rw [List.take_succ_eq_append_getElem hj, List.all_append, List.all_cons, List.all_nil, Bool.and_true]
theorem take_all_false {n : Nat} (kids : List (Tm n)) (j : Nat) (h : (kids.take j).all okT = false) : kids.all okT = false := by
  rw [← List.take_append_drop j kids, List.all_append, h, Bool.false_and]

set_option maxRecDepth 100000 in
set_option maxHeartbeats 1000000 in
theorem formed_any : ∀ (n : Nat) (t : Tm n) (w : World), IsT w.heap.size w t → Calls Tryz.prog 5 #[t.tv.val] w fun e W' => e = .returned (.bool (okT t)) ∧ Below w.heap.size w W' := by
  intro n
  induction n with
  | zero => intro t; exact Empty.elim t
  | succ n ih =>
    intro t w ht
    obtain ⟨⟨k, kN, s, a, len, cap⟩, kids⟩ := t
    obtain ⟨hlen, hmax, hsm, hkids⟩ := ht
    simp only [Tm.tv, Tm.kids] at hlen hmax hsm hkids
    rw [okT_succ]
    simp only [Tm.tv, TV.val, TV.ok]
    have HI := hide ih
    clear ih
    have hB1 : Below w.heap.size w (w.alloc (.cells #[.int .i64 k, .int .i64 kN, .string s, .slice a len cap] 24)) := (Below.refl _ w).alloc (Nat.le_refl _) _
    by_cases hk : k = 1 ∨ k = 2 ∨ k = 3
    · have hgo : wmB k kN s len = true → kids.all okT = true := by
        intro h
        have : len = 0 := by
          rcases hk with rfl | rfl | rfl <;> simp [wmB] at h <;> omega
        have : kids = [] := List.length_eq_zero_iff.1 (by omega)
        subst this; rfl
      have hans : (wmB k kN s len && kids.all okT) = wmB k kN s len := by
        cases h : wmB k kN s len
        · rfl
        · rw [hgo h]; rfl
      rw [hans]
      clear hans hgo hkids hmax hsm HI hlen
      rcases hk with rfl | rfl | rfl
      all_goals
        go_enter Tryz.func5, Tryz.ntmps5
        go_wp2_with fail
      all_goals go_ret
      all_goals refine ⟨?_, (Below.refl _ w).alloc (Nat.le_refl _) _⟩
      all_goals simp_all [wmB]
      all_goals (intros; omega)
    · have hwm : wmB k kN s len = (decide (k = 4) && (decide (kN = 0) && decide ((s.size : Int) ≤ 100)) && decide (1 ≤ (len : Int)) && decide ((len : Int) ≤ 50)) := by
        unfold wmB
        rw [if_neg (by omega), if_neg (by omega), if_neg (by omega)]
        by_cases h4 : k = 4
        · rw [if_pos h4, decide_eq_true h4]; simp
        · rw [if_neg h4, decide_eq_false h4]; simp
      have hk1 : (k == 1) = false := by simp; omega
      have hk2 : (k == 2) = false := by simp; omega
      have hk3 : (k == 3) = false := by simp; omega
      have hl1 : len ≤ kids.length := by omega
      have hl2 : kids.length ≤ len := by omega
      clear hlen hk hB1
      cases hwm' : wmB k kN s len with
      | false =>
        rw [hwm'] at hwm
        rw [Bool.false_and]
        clear hwm'
        have HW := hide hwm
        clear hwm hkids HI
        go_enter Tryz.func5, Tryz.ntmps5
        go_wp2_with fail
        all_goals
          refine wp_loop_rounds 1 ?_
          rw [rounds_succ]
          go_wp2_with fail
        all_goals first | (go_ret; exact ⟨rfl, (Below.refl _ w).alloc (Nat.le_refl _) _⟩) | (exfalso; have h := unhide HW; clear HW; rw [decide_eq_true ‹k = 4›, decide_eq_true ‹kN = 0›, decide_eq_true ‹(s.size : Int) ≤ 100›, decide_eq_true ‹1 ≤ (len : Int)›, decide_eq_true ‹(len : Int) ≤ 50›] at h; cases h)
      | true =>
        rw [hwm'] at hwm
        simp only [Bool.true_and]
        simp at hwm
        obtain ⟨⟨⟨rfl, rfl, hs⟩, hn1⟩, hn2⟩ := hwm
        clear hwm'
        by_cases hse : s.toList = []
        all_goals
          go_enter Tryz.func5, Tryz.ntmps5
          go_wp2_with fail
          go_loopw [5, 6] (fun o i wr => ∃ j : Nat, j ≤ len ∧ i = .int .i64 j ∧ o = .bool ((kids.take j).all okT) ∧ Below (w.heap.size + 1) (w.alloc (.cells #[.int .i64 4, .int .i64 0, .string s, .slice a len cap] 24)) wr) (fun _ i _ => len - (intOf i).toNat)
          case atStart => exact ⟨0, Nat.zero_le _, rfl, by simp, Below.refl _ _⟩
          case round =>
            obtain ⟨j, hj, rfl, rfl, hb⟩ := hrel
            obtain ⟨hc, hz⟩ : wr.cell? ⟨w.heap.size, 3, none⟩ = some (.slice a len cap) ∧ w.heap.size + 1 ≤ wr.heap.size := ⟨(hb.cell (p := ⟨w.heap.size, 3, none⟩) (by simp)).trans (by simp), by have := hb.size; simp at this; omega⟩
            cases ho : (kids.take j).all okT with
            | false =>
              have HO := hide ho
              clear ho hkids
              go_wp2_with fail
              go_ret
              exact ⟨by rw [take_all_false kids j (unhide HO)]; rfl, ((Below.refl _ w).alloc (Nat.le_refl _) _).trans (hb.mono (by omega))⟩
            | true =>
              have HO := hide ho
              clear ho
              by_cases hlt : j < len
              · obtain ⟨u, hu⟩ : ∃ u, kids[j]? = some u := ⟨kids[j]'(by omega), List.getElem?_eq_getElem (by omega)⟩
                have hne : kids ≠ [] := by rintro rfl; simp at hu
                obtain ⟨b, off, rfl, hbk, hk⟩ := hkids.resolve_left hne
                obtain ⟨⟨c0, c1, c2, c3⟩, hT⟩ := hk j u hu
                have hbw : Below w.heap.size w wr := ((Below.refl _ w).alloc (Nat.le_refl _) _).trans (hb.mono (by omega))
                replace c0 := (hbw.cell (p := ⟨b, off + j * 4, none⟩) hbk).trans c0
                replace c1 := (hbw.cell (p := ⟨b, off + j * 4 + 1, none⟩) hbk).trans c1
                replace c2 := (hbw.cell (p := ⟨b, off + j * 4 + 2, none⟩) hbk).trans c2
                replace c3 := (hbw.cell (p := ⟨b, off + j * 4 + 3, none⟩) hbk).trans c3
                have ihu := (unhide HI) u wr ((hT.below hbw).mono (by omega))
                have HU := hide hu
                clear hT hk hkids hu hne hbw
                simp only [TV.val] at ihu
                go_wp2_with (go_at_call 5; refine ihu.mono ?_; clear ihu; rintro e W2 ⟨rfl, hb2⟩)
                go_roundw
                case rel => exact ⟨j + 1, by omega, by go_num, by rw [take_all kids j u (unhide HU), unhide HO]; rfl, hb.trans (hb2.mono (by omega))⟩
                case measure => simp [intOf]; omega
              · have ht : kids.take j = kids := List.take_of_length_le (by omega)
                have HT := hide ht
                clear ht hkids
                go_wp2_with fail
                go_ret
                exact ⟨by have h := unhide HO; rw [unhide HT] at h; rw [h]; rfl, ((Below.refl _ w).alloc (Nat.le_refl _) _).trans (hb.mono (by omega))⟩
end Go.Proofs.YtojefplapklbmaaGreatDoor

/- Plain mathematics: comparisons (IsCmp), put behind one another and lifted to lists; the order of terms (ordT) is a total one, and answers 0 just where the terms are the same (sameT). -/
namespace Go.Proofs.YtojefplapklbmaaGreatDoor

def cmp3 (a b : Int) : Int := if a < b then -1 else if b < a then 1 else 0
def thenC (c d : Int) : Int := if c ≠ 0 then c else d

/-- A comparison: -1, 0 or 1, of a total order. -/
structure IsCmp {α : Type} (f : α → α → Int) : Prop where
  range : ∀ a b, -1 ≤ f a b ∧ f a b ≤ 1
  anti : ∀ a b, f b a = - f a b
  trans : ∀ a b c, f a b ≤ 0 → f b c ≤ 0 → f a c ≤ 0 ∧ (f a c = 0 → f a b = 0 ∧ f b c = 0)

theorem thenC_zero {c d : Int} : thenC c d = 0 ↔ c = 0 ∧ d = 0 := by
  unfold thenC; split <;> omega
theorem cmp3_zero {a b : Int} : cmp3 a b = 0 ↔ a = b := by
  unfold cmp3; split <;> (try split) <;> omega
theorem isCmp_by {α : Type} (g : α → Int) : IsCmp (fun a b : α => cmp3 (g a) (g b)) := by
  refine ⟨fun a b => ?_, fun a b => ?_, fun a b c => ?_⟩ <;> simp only [cmp3] <;> (repeat split) <;> omega
theorem isCmp_then {α : Type} {f g : α → α → Int} (hf : IsCmp f) (hg : IsCmp g) : IsCmp (fun a b => thenC (f a b) (g a b)) := by
  refine ⟨fun a b => ?_, fun a b => ?_, fun a b c => ?_⟩
  · have h1 := hf.range a b
    have h2 := hg.range a b
    simp only [thenC]; split <;> omega
  · have h1 := hf.anti a b
    have h2 := hg.anti a b
    simp only [thenC]; split <;> split <;> omega
  · intro h1 h2
    have k1 := hf.trans a b c
    have k2 := hg.trans a b c
    simp only [thenC] at *
    split at h1 <;> split at h2 <;> split <;> omega
theorem isCmp_of {α β : Type} (p : α → β) {f : β → β → Int} (hf : IsCmp f) : IsCmp (fun a b : α => f (p a) (p b)) :=
  ⟨fun _ _ => hf.range _ _, fun _ _ => hf.anti _ _, fun _ _ _ => hf.trans _ _ _⟩

def lexL {α : Type} (f : α → α → Int) : List α → List α → Int
  | [], [] => 0
  | [], _ :: _ => -1
  | _ :: _, [] => 1
  | a :: r, b :: s => thenC (f a b) (lexL f r s)
def all2 {α : Type} (f : α → α → Bool) : List α → List α → Bool
  | [], [] => true
  | a :: r, b :: s => f a b && all2 f r s
  | _, _ => false

theorem isCmp_list {α : Type} {f : α → α → Int} (hf : IsCmp f) : IsCmp (lexL f) := by
  refine ⟨fun a => ?_, fun a => ?_, fun a => ?_⟩
  · induction a with
    | nil => intro b; cases b <;> simp [lexL]
    | cons x a ih =>
      intro b
      cases b with
      | nil => simp [lexL]
      | cons y b =>
        have h1 := hf.range x y
        have h2 := ih b
        simp only [lexL, thenC]; split <;> omega
  · induction a with
    | nil => intro b; cases b <;> simp [lexL]
    | cons x a ih =>
      intro b
      cases b with
      | nil => simp [lexL]
      | cons y b =>
        have h1 := hf.anti x y
        have h2 := ih b
        simp only [lexL, thenC]; split <;> split <;> omega
  · induction a with
    | nil => intro b c; cases b <;> cases c <;> simp [lexL]
    | cons x a ih =>
      intro b c
      cases b with
      | nil => intro h; simp [lexL] at h
      | cons y b =>
        cases c with
        | nil => intro _ h; simp [lexL] at h
        | cons z c =>
          intro h1 h2
          have k1 := hf.trans x y z
          have k2 := ih b c
          simp only [lexL, thenC] at *
          split at h1 <;> split at h2 <;> split <;> omega

theorem lexL_zero {α : Type} {f : α → α → Int} {g : α → α → Bool} (h : ∀ a b, f a b = 0 ↔ g a b = true) : ∀ a b : List α, lexL f a b = 0 ↔ all2 g a b = true := by
  intro a
  induction a with
  | nil => intro b; cases b <;> simp [lexL, all2]
  | cons x a ih =>
    intro b
    cases b with
    | nil => simp [lexL, all2]
    | cons y b => simp only [lexL, all2, thenC_zero, Bool.and_eq_true, h, ih]

/-! ### names -/
def cmpS (a b : List UInt8) : Int := if Op.bytesLess a b = true then -1 else if a = b then 0 else 1
theorem cmpS_eq : ∀ a b : List UInt8, cmpS a b = lexL (fun x y : UInt8 => cmp3 x.toNat y.toNat) a b := by
  intro a
  induction a with
  | nil => intro b; cases b <;> simp [cmpS, lexL, Op.bytesLess]
  | cons x a ih =>
    intro b
    cases b with
    | nil => simp [cmpS, lexL, Op.bytesLess]
    | cons y b =>
      simp only [lexL, ← ih b]
      simp only [cmpS, Op.bytesLess, cmp3, thenC]
      by_cases h1 : x < y
      · have h1' : (x.toNat : Int) < y.toNat := by have := UInt8.lt_iff_toNat_lt.1 h1; omega
        simp [h1, h1']
      · have h1' : ¬ (x.toNat : Int) < y.toNat := by intro h; exact h1 (UInt8.lt_iff_toNat_lt.2 (by omega))
        by_cases h2 : x = y
        · subst h2; simp [h1]
        · have h2' : (y.toNat : Int) < x.toNat := by
            have : x.toNat ≠ y.toNat := fun h => h2 (UInt8.toNat_inj.1 h)
            omega
          simp [h1, h1', h2, h2']
theorem isCmp_names : IsCmp cmpS := by
  have h : cmpS = lexL (fun x y : UInt8 => cmp3 x.toNat y.toNat) := by funext a b; exact cmpS_eq a b
  rw [h]; exact isCmp_list (isCmp_by (fun x : UInt8 => (x.toNat : Int)))
theorem cmpS_zero {a b : List UInt8} : cmpS a b = 0 ↔ a = b := by
  have h := lexL_zero (f := fun x y : UInt8 => cmp3 x.toNat y.toNat) (g := fun x y => x == y) (fun x y => by rw [cmp3_zero, beq_iff_eq, ← UInt8.toNat_inj]; omega) a b
  rw [cmpS_eq, h]
  clear h
  induction a generalizing b with
  | nil => cases b <;> simp [all2]
  | cons x a ih =>
    cases b with
    | nil => simp [all2]
    | cons y b => simp [all2, ih]

/-! ### terms -/
def otop (x y : TV) : Int := thenC (cmp3 x.k y.k) (thenC (cmp3 x.N y.N) (thenC (cmp3 x.len y.len) (cmpS x.s.toList y.s.toList)))
def stop (x y : TV) : Bool := decide (x.k = y.k) && (decide (x.N = y.N) && (decide (x.s.toList = y.s.toList) && decide (x.len = y.len)))
def ordT : {n : Nat} → Tm n → Tm n → Int
  | 0, _, _ => 0
  | _ + 1, a, b => thenC (otop a.tv b.tv) (lexL ordT a.kids b.kids)
def sameT : {n : Nat} → Tm n → Tm n → Bool
  | 0, _, _ => true
  | _ + 1, a, b => stop a.tv b.tv && all2 sameT a.kids b.kids
theorem isCmp_top : IsCmp otop :=
  isCmp_then (isCmp_by TV.k) (isCmp_then (isCmp_by TV.N) (isCmp_then (isCmp_by (fun x : TV => (x.len : Int))) (isCmp_of (fun x : TV => x.s.toList) isCmp_names)))
theorem otop_zero {x y : TV} : otop x y = 0 ↔ stop x y = true := by
  simp only [otop, stop, thenC_zero, cmp3_zero, cmpS_zero, Bool.and_eq_true, decide_eq_true_eq, Int.ofNat_inj]
  constructor
  · rintro ⟨h1, h2, h3, h4⟩; exact ⟨h1, h2, h4, h3⟩
  · rintro ⟨h1, h2, h4, h3⟩; exact ⟨h1, h2, h3, h4⟩
theorem isCmp_ord : ∀ n : Nat, IsCmp (ordT (n := n))
  | 0 => ⟨fun a _ => Empty.elim a, fun a _ => Empty.elim a, fun a _ _ => Empty.elim a⟩
  | n + 1 => isCmp_then (isCmp_of (Tm.tv (n := n + 1)) isCmp_top) (isCmp_of Tm.kids (isCmp_list (isCmp_ord n)))
theorem ord_zero : ∀ {n : Nat} (a b : Tm n), ordT a b = 0 ↔ sameT a b = true
  | 0, a, _ => Empty.elim a
  | n + 1, a, b => by
    simp only [ordT, sameT, thenC_zero, Bool.and_eq_true, otop_zero]
    rw [lexL_zero (fun x y => ord_zero (n := n) x y)]
end Go.Proofs.YtojefplapklbmaaGreatDoor

/- The contracts of cmp.Compare at int, int64 and string, and of term.orderTop. -/
namespace Go.Proofs.YtojefplapklbmaaGreatDoor
open Go.RowKit Go.Shelf

theorem ret_int {k : IntKind} {a b : Int} (h : a = b) : Ending.returned (.int k a) = .returned (.int k b) := by rw [h]
theorem cmp3_lt {a b : Int} (h : a < b) : -1 = cmp3 a b := by unfold cmp3; rw [if_pos h]
theorem cmp3_gt {a b : Int} (h : b < a) : 1 = cmp3 a b := by unfold cmp3; rw [if_neg (by omega), if_pos h]
theorem cmp3_eq {a b : Int} (h1 : b ≤ a) (h2 : a ≤ b) : 0 = cmp3 a b := by unfold cmp3; rw [if_neg (by omega), if_neg (by omega)]

set_option maxHeartbeats 400000 in
theorem cmpi_any (a b : Int) (w : World) : Calls Tryz.prog 102 #[.int .i64 a, .int .i64 b] w fun e W' => e = .returned (.int .i64 (cmp3 a b)) ∧ W' = w := by
  go_enter Tryz.func102, Tryz.ntmps102
  go_wp2
  all_goals go_ret
  all_goals refine ⟨?_, rfl⟩
  · exact ret_int (cmp3_lt ‹_›)
  · exact ret_int (cmp3_gt ‹b < a›)
  · exact ret_int (cmp3_eq ‹b ≤ a› ‹a ≤ b›)
set_option maxHeartbeats 400000 in
theorem cmpl_any (a b : Int) (w : World) : Calls Tryz.prog 96 #[.int .i64 a, .int .i64 b] w fun e W' => e = .returned (.int .i64 (cmp3 a b)) ∧ W' = w := by
  go_enter Tryz.func96, Tryz.ntmps96
  go_wp2
  all_goals go_ret
  all_goals refine ⟨?_, rfl⟩
  · exact ret_int (cmp3_lt ‹_›)
  · exact ret_int (cmp3_gt ‹b < a›)
  · exact ret_int (cmp3_eq ‹b ≤ a› ‹a ≤ b›)
set_option maxHeartbeats 400000 in
theorem cmps_any (a b : ByteArray) (w : World) : Calls Tryz.prog 103 #[.string a, .string b] w fun e W' => e = .returned (.int .i64 (cmpS a.toList b.toList)) ∧ W' = w := by
  go_enter Tryz.func103, Tryz.ntmps103
  go_wp2
  all_goals go_ret
  all_goals refine ⟨?_, rfl⟩
  · exact ret_int (by unfold cmpS; rw [if_pos ‹_›])
  · have h1 : Op.bytesLess a.toList b.toList = false := by assumption
    have h2 : (!a.toList == b.toList) = true := by assumption
    exact ret_int (by unfold cmpS; rw [if_neg (by rw [h1]; simp), if_neg (by simpa using h2)])
  · have h1 : Op.bytesLess a.toList b.toList = false := by assumption
    have h2 : (!a.toList == b.toList) = false := by assumption
    exact ret_int (by unfold cmpS; rw [if_neg (by rw [h1]; simp), if_pos (by simpa using h2)])

theorem otop1 {x y : TV} (h : cmp3 x.k y.k ≠ 0) : cmp3 x.k y.k = otop x y := by unfold otop thenC; rw [if_pos h]
theorem otop2 {x y : TV} (h : cmp3 x.k y.k = 0) (h2 : cmp3 x.N y.N ≠ 0) : cmp3 x.N y.N = otop x y := by unfold otop thenC; rw [if_neg (by omega), if_pos h2]
theorem otop3 {x y : TV} (h : cmp3 x.k y.k = 0) (h2 : cmp3 x.N y.N = 0) (h3 : cmp3 x.len y.len ≠ 0) : cmp3 x.len y.len = otop x y := by unfold otop thenC; rw [if_neg (by omega), if_neg (by omega), if_pos h3]
theorem otop4 {x y : TV} (h : cmp3 x.k y.k = 0) (h2 : cmp3 x.N y.N = 0) (h3 : cmp3 x.len y.len = 0) : cmpS x.s.toList y.s.toList = otop x y := by unfold otop thenC; rw [if_neg (by omega), if_neg (by omega), if_neg (by omega)]

set_option maxHeartbeats 1000000 in
theorem otop_any (x y : TV) (w : World) : Calls Tryz.prog 91 #[x.val, y.val] w fun e W' => e = .returned (.int .i64 (otop x y)) ∧ Below w.heap.size w W' := by
  simp only [TV.val]
  have hB : Below w.heap.size w ((w.alloc (.cells #[.int .i64 x.k, .int .i64 x.N, .string x.s, .slice x.a x.len x.cap] 24)).alloc (.cells #[.int .i64 y.k, .int .i64 y.N, .string y.s, .slice y.a y.len y.cap] 24)) := ((Below.refl _ w).alloc (Nat.le_refl _) _).alloc (by simp) _
  have HB := hide hB
  clear hB
  have h49 := cmpi_any x.k y.k ((w.alloc (.cells #[.int .i64 x.k, .int .i64 x.N, .string x.s, .slice x.a x.len x.cap] 24)).alloc (.cells #[.int .i64 y.k, .int .i64 y.N, .string y.s, .slice y.a y.len y.cap] 24))
  have h42 := cmpl_any x.N y.N ((w.alloc (.cells #[.int .i64 x.k, .int .i64 x.N, .string x.s, .slice x.a x.len x.cap] 24)).alloc (.cells #[.int .i64 y.k, .int .i64 y.N, .string y.s, .slice y.a y.len y.cap] 24))
  have h49b := cmpi_any x.len y.len ((w.alloc (.cells #[.int .i64 x.k, .int .i64 x.N, .string x.s, .slice x.a x.len x.cap] 24)).alloc (.cells #[.int .i64 y.k, .int .i64 y.N, .string y.s, .slice y.a y.len y.cap] 24))
  have h50 := cmps_any x.s y.s ((w.alloc (.cells #[.int .i64 x.k, .int .i64 x.N, .string x.s, .slice x.a x.len x.cap] 24)).alloc (.cells #[.int .i64 y.k, .int .i64 y.N, .string y.s, .slice y.a y.len y.cap] 24))
  have e1 := @otop1 x y
  have e2 := @otop2 x y
  have e3 := @otop3 x y
  have e4 := @otop4 x y
  generalize cmp3 x.k y.k = c1 at *
  generalize cmp3 x.N y.N = c2 at *
  generalize cmp3 x.len y.len = c3 at *
  generalize cmpS x.s.toList y.s.toList = c4 at *
  generalize otop x y = r at *
  have E1 := hide e1
  have E2 := hide e2
  have E3 := hide e3
  have E4 := hide e4
  clear e1 e2 e3 e4
  by_cases hc1 : c1 = 0
  · have hb1 : (c1 != 0) = false := by simp [hc1]
    have H1 := hide hc1
    clear hc1
    by_cases hc2 : c2 = 0
    · have hb2 : (c2 != 0) = false := by simp [hc2]
      have H2 := hide hc2
      clear hc2
      by_cases hc3 : c3 = 0
      · have hb3 : (c3 != 0) = false := by simp [hc3]
        have H3 := hide hc3
        clear hc3
        go_enter Tryz.func91, Tryz.ntmps91
        go_wp2_with (first
          | (go_at_call 102; refine h49.mono ?_; clear h49; rintro e w' ⟨rfl, rfl⟩)
          | (go_at_call 96; refine h42.mono ?_; clear h42; rintro e w' ⟨rfl, rfl⟩)
          | (go_at_call 102; refine h49b.mono ?_; clear h49b; rintro e w' ⟨rfl, rfl⟩)
          | (go_at_call 103; refine h50.mono ?_; clear h50; rintro e w' ⟨rfl, rfl⟩))
        go_ret
        exact ⟨ret_int ((unhide E4) (unhide H1) (unhide H2) (unhide H3)), unhide HB⟩
      · have hb3 : (c3 != 0) = true := by simp [hc3]
        go_enter Tryz.func91, Tryz.ntmps91
        go_wp2_with (first
          | (go_at_call 102; refine h49.mono ?_; clear h49; rintro e w' ⟨rfl, rfl⟩)
          | (go_at_call 96; refine h42.mono ?_; clear h42; rintro e w' ⟨rfl, rfl⟩)
          | (go_at_call 102; refine h49b.mono ?_; clear h49b; rintro e w' ⟨rfl, rfl⟩))
        go_ret
        exact ⟨ret_int ((unhide E3) (unhide H1) (unhide H2) hc3), unhide HB⟩
    · have hb2 : (c2 != 0) = true := by simp [hc2]
      go_enter Tryz.func91, Tryz.ntmps91
      go_wp2_with (first
        | (go_at_call 102; refine h49.mono ?_; clear h49; rintro e w' ⟨rfl, rfl⟩)
        | (go_at_call 96; refine h42.mono ?_; clear h42; rintro e w' ⟨rfl, rfl⟩))
      go_ret
      exact ⟨ret_int ((unhide E2) (unhide H1) hc2), unhide HB⟩
  · have hb1 : (c1 != 0) = true := by simp [hc1]
    go_enter Tryz.func91, Tryz.ntmps91
    go_wp2_with (go_at_call 102; refine h49.mono ?_; clear h49; rintro e w' ⟨rfl, rfl⟩)
    go_ret
    exact ⟨ret_int ((unhide E1) hc1), unhide HB⟩
end Go.Proofs.YtojefplapklbmaaGreatDoor

