import Derived.Test.YtjdanfhbccpnpaaB
/- Plain mathematics: comparisons (IsCmp), put behind one another and lifted to lists; the order of terms (ordT) is a total one, and answers 0 just where the terms are the same (sameT). -/
namespace Go.Proofs.Ytjdanfhbccpnpaa

def cmp3 (a b : Int) : Int := if a < b then -1 else if b < a then 1 else 0
def thenC (c d : Int) : Int := if c ≠ 0 then c else d

/-- A comparison: -1, 0 or 1, of a total order. -/
structure IsCmp {α : Type} (f : α → α → Int) : Prop where
  range : ∀ a b, -1 ≤ f a b ∧ f a b ≤ 1
  anti : ∀ a b, f b a = - f a b
  trans : ∀ a b c, f a b ≤ 0 → f b c ≤ 0 → f a c ≤ 0 ∧ (f a c = 0 → f a b = 0 ∧ f b c = 0)

theorem thenC_zero {c d : Int} : thenC c d = 0 ↔ c = 0 ∧ d = 0 := by
  unfold thenC; split <;> omega
theorem cmp3_zero {a b : Int} : cmp3 a b = 0 ↔ a = b := by
  unfold cmp3; split <;> (try split) <;> omega
theorem isCmp_by {α : Type} (g : α → Int) : IsCmp (fun a b : α => cmp3 (g a) (g b)) := by
  refine ⟨fun a b => ?_, fun a b => ?_, fun a b c => ?_⟩ <;> simp only [cmp3] <;> (repeat split) <;> omega
theorem isCmp_then {α : Type} {f g : α → α → Int} (hf : IsCmp f) (hg : IsCmp g) : IsCmp (fun a b => thenC (f a b) (g a b)) := by
  refine ⟨fun a b => ?_, fun a b => ?_, fun a b c => ?_⟩
  · have h1 := hf.range a b
    have h2 := hg.range a b
    simp only [thenC]; split <;> omega
  · have h1 := hf.anti a b
    have h2 := hg.anti a b
    simp only [thenC]; split <;> split <;> omega
  · intro h1 h2
    have k1 := hf.trans a b c
    have k2 := hg.trans a b c
    simp only [thenC] at *
    split at h1 <;> split at h2 <;> split <;> omega
theorem isCmp_of {α β : Type} (p : α → β) {f : β → β → Int} (hf : IsCmp f) : IsCmp (fun a b : α => f (p a) (p b)) :=
  ⟨fun _ _ => hf.range _ _, fun _ _ => hf.anti _ _, fun _ _ _ => hf.trans _ _ _⟩

def lexL {α : Type} (f : α → α → Int) : List α → List α → Int
  | [], [] => 0
  | [], _ :: _ => -1
  | _ :: _, [] => 1
  | a :: r, b :: s => thenC (f a b) (lexL f r s)
def all2 {α : Type} (f : α → α → Bool) : List α → List α → Bool
  | [], [] => true
  | a :: r, b :: s => f a b && all2 f r s
  | _, _ => false

theorem isCmp_list {α : Type} {f : α → α → Int} (hf : IsCmp f) : IsCmp (lexL f) := by
  refine ⟨fun a => ?_, fun a => ?_, fun a => ?_⟩
  · induction a with
    | nil => intro b; cases b <;> simp [lexL]
    | cons x a ih =>
      intro b
      cases b with
      | nil => simp [lexL]
      | cons y b =>
        have h1 := hf.range x y
        have h2 := ih b
        simp only [lexL, thenC]; split <;> omega
  · induction a with
    | nil => intro b; cases b <;> simp [lexL]
    | cons x a ih =>
      intro b
      cases b with
      | nil => simp [lexL]
      | cons y b =>
        have h1 := hf.anti x y
        have h2 := ih b
        simp only [lexL, thenC]; split <;> split <;> omega
  · induction a with
    | nil => intro b c; cases b <;> cases c <;> simp [lexL]
    | cons x a ih =>
      intro b c
      cases b with
      | nil => intro h; simp [lexL] at h
      | cons y b =>
        cases c with
        | nil => intro _ h; simp [lexL] at h
        | cons z c =>
          intro h1 h2
          have k1 := hf.trans x y z
          have k2 := ih b c
          simp only [lexL, thenC] at *
          split at h1 <;> split at h2 <;> split <;> omega

theorem lexL_zero {α : Type} {f : α → α → Int} {g : α → α → Bool} (h : ∀ a b, f a b = 0 ↔ g a b = true) : ∀ a b : List α, lexL f a b = 0 ↔ all2 g a b = true := by
  intro a
  induction a with
  | nil => intro b; cases b <;> simp [lexL, all2]
  | cons x a ih =>
    intro b
    cases b with
    | nil => simp [lexL, all2]
    | cons y b => simp only [lexL, all2, thenC_zero, Bool.and_eq_true, h, ih]

/-! ### names -/
def cmpS (a b : List UInt8) : Int := if Op.bytesLess a b = true then -1 else if a = b then 0 else 1
theorem cmpS_eq : ∀ a b : List UInt8, cmpS a b = lexL (fun x y : UInt8 => cmp3 x.toNat y.toNat) a b := by
  intro a
  induction a with
  | nil => intro b; cases b <;> simp [cmpS, lexL, Op.bytesLess]
  | cons x a ih =>
    intro b
    cases b with
    | nil => simp [cmpS, lexL, Op.bytesLess]
    | cons y b =>
      simp only [lexL, ← ih b]
      simp only [cmpS, Op.bytesLess, cmp3, thenC]
      by_cases h1 : x < y
      · have h1' : (x.toNat : Int) < y.toNat := by have := UInt8.lt_iff_toNat_lt.1 h1; omega
        simp [h1, h1']
      · have h1' : ¬ (x.toNat : Int) < y.toNat := by intro h; exact h1 (UInt8.lt_iff_toNat_lt.2 (by omega))
        by_cases h2 : x = y
        · subst h2; simp [h1]
        · have h2' : (y.toNat : Int) < x.toNat := by
            have : x.toNat ≠ y.toNat := fun h => h2 (UInt8.toNat_inj.1 h)
            omega
          simp [h1, h1', h2, h2']
theorem isCmp_names : IsCmp cmpS := by
  have h : cmpS = lexL (fun x y : UInt8 => cmp3 x.toNat y.toNat) := by funext a b; exact cmpS_eq a b
  rw [h]; exact isCmp_list (isCmp_by (fun x : UInt8 => (x.toNat : Int)))
theorem cmpS_zero {a b : List UInt8} : cmpS a b = 0 ↔ a = b := by
  have h := lexL_zero (f := fun x y : UInt8 => cmp3 x.toNat y.toNat) (g := fun x y => x == y) (fun x y => by rw [cmp3_zero, beq_iff_eq, ← UInt8.toNat_inj]; omega) a b
  rw [cmpS_eq, h]
  clear h
  induction a generalizing b with
  | nil => cases b <;> simp [all2]
  | cons x a ih =>
    cases b with
    | nil => simp [all2]
    | cons y b => simp [all2, ih]

/-! ### terms -/
def otop (x y : TV) : Int := thenC (cmp3 x.k y.k) (thenC (cmp3 x.N y.N) (thenC (cmp3 x.len y.len) (cmpS x.s.toList y.s.toList)))
def stop (x y : TV) : Bool := decide (x.k = y.k) && (decide (x.N = y.N) && (decide (x.s.toList = y.s.toList) && decide (x.len = y.len)))
def ordT : {n : Nat} → Tm n → Tm n → Int
  | 0, _, _ => 0
  | _ + 1, a, b => thenC (otop a.tv b.tv) (lexL ordT a.kids b.kids)
def sameT : {n : Nat} → Tm n → Tm n → Bool
  | 0, _, _ => true
  | _ + 1, a, b => stop a.tv b.tv && all2 sameT a.kids b.kids
theorem isCmp_top : IsCmp otop :=
  isCmp_then (isCmp_by TV.k) (isCmp_then (isCmp_by TV.N) (isCmp_then (isCmp_by (fun x : TV => (x.len : Int))) (isCmp_of (fun x : TV => x.s.toList) isCmp_names)))
theorem otop_zero {x y : TV} : otop x y = 0 ↔ stop x y = true := by
  simp only [otop, stop, thenC_zero, cmp3_zero, cmpS_zero, Bool.and_eq_true, decide_eq_true_eq, Int.ofNat_inj]
  constructor
  · rintro ⟨h1, h2, h3, h4⟩; exact ⟨h1, h2, h4, h3⟩
  · rintro ⟨h1, h2, h4, h3⟩; exact ⟨h1, h2, h3, h4⟩
theorem isCmp_ord : ∀ n : Nat, IsCmp (ordT (n := n))
  | 0 => ⟨fun a _ => Empty.elim a, fun a _ => Empty.elim a, fun a _ _ => Empty.elim a⟩
  | n + 1 => isCmp_then (isCmp_of (Tm.tv (n := n + 1)) isCmp_top) (isCmp_of Tm.kids (isCmp_list (isCmp_ord n)))
theorem ord_zero : ∀ {n : Nat} (a b : Tm n), ordT a b = 0 ↔ sameT a b = true
  | 0, a, _ => Empty.elim a
  | n + 1, a, b => by
    simp only [ordT, sameT, thenC_zero, Bool.and_eq_true, otop_zero]
    rw [lexL_zero (fun x y => ord_zero (n := n) x y)]
end Go.Proofs.Ytjdanfhbccpnpaa

