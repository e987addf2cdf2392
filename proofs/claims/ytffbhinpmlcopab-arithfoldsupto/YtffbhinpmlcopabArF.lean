import Derived.Test.YtffbhinpmlcopabArE
/- The number of a term: arith.number, arith.Eval. -/
namespace Go.Proofs.Ytffbhinpmlcopab
open Go.RowKit Go.Shelf

theorem fit_in {n m : Int} (h : fit n = .ok m) : inR m := by
  unfold fit at h
  split at h
  · cases h; assumption
  · cases h
theorem fit_err {n : Int} {s : ByteArray} (h : fit n = .error s) : s = sOvf := by
  unfold fit at h
  split at h
  · cases h
  · cases h; rfl
theorem shr_in {a : Int} (ha : inR a) (k : Nat) : inR (a / 2 ^ k) := by
  have hp := pow_pos k
  generalize (2 : Int) ^ k = p at *
  unfold inR at *
  by_cases h0 : 0 ≤ a
  · have h1 := Int.ediv_nonneg h0 (Int.le_of_lt hp)
    have h2 := Int.ediv_le_self p h0
    omega
  · have h1 := Int.ediv_neg_of_neg_of_pos (show a < 0 by omega) hp
    have h2 : a ≤ a / p := Int.le_ediv_of_mul_le hp (by
      have : a * (p - 1) ≤ 0 := Int.mul_nonpos_of_nonpos_of_nonneg (by omega) (by omega)
      rw [Int.mul_sub] at this
      omega)
    omega
theorem bits_in (a b : Int) : inR (bits .and .i64 a b) ∧ inR (bits .or .i64 a b) ∧ inR (bits .xor .i64 a b) := by
  rw [bits_and64, bits_or64, bits_xor64]
  exact ⟨toInt_in _, toInt_in _, toInt_in _⟩
def badS (s : ByteArray) : Prop := s = sOvf ∨ s = sZero ∨ s = sNeg
theorem one_in {s : List UInt8} {f : Int → Except ByteArray Int} (h : oneOp s = some f) {a : Int} (ha : inR a) :
    (∀ n, f a = .ok n → inR n) ∧ (∀ e, f a = .error e → badS e) := by
  unfold oneOp at h
  repeat' split at h
  all_goals (first | (cases h; done) | skip)
  all_goals simp only [Option.some.injEq] at h
  all_goals subst h
  all_goals refine ⟨fun n hn => ?_, fun e he => ?_⟩
  all_goals (first | exact fit_in hn | exact .inl (fit_err he) | (cases he; done) | (cases hn) )
  all_goals unfold inR at *
  all_goals (first | omega | skip)
  all_goals (rcases Int.lt_trichotomy a 0 with h | h | h)
  all_goals (first | (rw [Int.sign_eq_neg_one_of_neg h]; omega) | (rw [Int.sign_eq_one_of_pos h]; omega) | (subst h; decide))
/-- What both answers of one number and another keep. -/
def goodAt (a b : Int) (f : Int → Int → Except ByteArray Int) : Prop := (∀ n, f a b = .ok n → inR n) ∧ (∀ e, f a b = .error e → badS e)
theorem ite_some {c : Bool} {F : Type} {x f : F} {B : Option F} {P : F → Prop} (h : (if c = true then some x else B) = some f) (hx : P x) (hB : B = some f → P f) : P f := by
  cases c with
  | true => cases h; exact hx
  | false => exact hB h
theorem good_fit (a b : Int) (g : Int → Int → Int) : goodAt a b (fun a b => fit (g a b)) := ⟨fun _ h => fit_in h, fun _ h => .inl (fit_err h)⟩
theorem good_ok {a b : Int} {g : Int → Int → Int} (h : inR (g a b)) : goodAt a b (fun a b => .ok (g a b)) := ⟨fun n e => by cases e; exact h, fun e h => by cases h⟩
theorem good_zero {a b : Int} {f : Int → Int → Except ByteArray Int} (h : b ≠ 0 → goodAt a b f) : goodAt a b (fun a b => if b = 0 then .error sZero else f a b) := by
  by_cases h0 : b = 0
  · subst h0
    exact ⟨fun n e => by simp at e, fun e h => by simp at h; exact .inr (.inl h.symm)⟩
  · have := h h0
    unfold goodAt at *
    simp only [h0, if_false]
    exact this
theorem good_neg {a b : Int} {f : Int → Int → Except ByteArray Int} (h : goodAt a b f) : goodAt a b (fun a b => if b < 0 then .error sNeg else f a b) := by
  by_cases h0 : b < 0
  · unfold goodAt
    simp only [h0, if_true]
    exact ⟨fun n e => by simp at e, fun e h => by simp at h; exact .inr (.inr h.symm)⟩
  · unfold goodAt at *
    simp only [h0, if_false]
    exact h
theorem two_in {s : List UInt8} {f : Int → Int → Except ByteArray Int} (h : twoOp s = some f) {a b : Int} (ha : inR a) (hb : inR b) : goodAt a b f := by
  unfold twoOp at h
  have hmin : inR (min a b) := by unfold inR at *; omega
  have hmax : inR (max a b) := by unfold inR at *; omega
  refine ite_some h (good_fit a b (fun a b => a + b)) fun h => ?_
  refine ite_some h (good_fit a b (fun a b => a - b)) fun h => ?_
  refine ite_some h (good_fit a b (fun a b => a * b)) fun h => ?_
  refine ite_some h (good_zero fun _ => good_fit a b (fun a b => a.tdiv b)) fun h => ?_
  refine ite_some h (good_zero fun _ => good_ok (g := fun a b => a.tmod b) (tmod_in ha)) fun h => ?_
  refine ite_some h (good_zero fun _ => good_fit a b flr) fun h => ?_
  refine ite_some h (good_zero fun h0 => good_ok (g := lft) (lft_in hb h0)) fun h => ?_
  refine ite_some h (good_ok (g := fun a b => min a b) hmin) fun h => ?_
  refine ite_some h (good_ok (g := fun a b => max a b) hmax) fun h => ?_
  refine ite_some h (good_fit a b (fun a b => (Int.gcd a b : Int))) fun h => ?_
  refine ite_some h (good_neg (good_fit a b (fun a b => a ^ b.toNat))) fun h => ?_
  refine ite_some h (good_neg (good_fit a b (fun a b => a ^ b.toNat))) fun h => ?_
  refine ite_some h (good_neg (good_fit a b (fun a b => a * 2 ^ b.toNat))) fun h => ?_
  refine ite_some h (good_neg (good_ok (g := fun a b => a / 2 ^ min b.toNat 64) (shr_in ha _))) fun h => ?_
  refine ite_some h (good_ok (g := fun a b => bits .and .i64 a b) (bits_in a b).1) fun h => ?_
  refine ite_some h (good_ok (g := fun a b => bits .or .i64 a b) (bits_in a b).2.1) fun h => ?_
  refine ite_some h (good_ok (g := fun a b => bits .xor .i64 a b) (bits_in a b).2.2) fun h => ?_
  cases h
theorem op_in {s : List UInt8} {k : Nat} {f : Int → Int → Except ByteArray Int} (h : opOf s k = some f) {a b : Int} (ha : inR a) (hb : inR b) :
    (∀ n, f a b = .ok n → inR n) ∧ (∀ e, f a b = .error e → badS e) := by
  unfold opOf at h
  split at h
  · obtain ⟨g, hg, rfl⟩ := Option.map_eq_some_iff.1 h
    exact one_in hg ha
  · split at h
    · exact two_in h ha hb
    · cases h
theorem op_len {s : List UInt8} {k : Nat} {f : Int → Int → Except ByteArray Int} (h : opOf s k = some f) : 1 ≤ k ∧ k ≤ 2 := by
  unfold opOf at h
  split at h
  · omega
  · split at h
    · omega
    · cases h
theorem bad_some {s : ByteArray} (h : badS s) : s.toList.isEmpty = false ∧ s.size ≤ 9223372036854775807 := by
  rcases h with rfl | rfl | rfl
  · exact ⟨by decide +kernel, by decide⟩
  · exact ⟨by decide +kernel, by decide⟩
  · exact ⟨by decide +kernel, by decide⟩

/-- The numbers of a row, or the first ball. -/
def evL {α : Type} (f : α → Except (List Nd) Int) : List α → Except (List Nd) (List Int)
  | [] => .ok []
  | x :: l => match f x with
    | .error c => .error c
    | .ok n => match evL f l with
      | .error c => .error c
      | .ok ns => .ok (n :: ns)
theorem evL_ok {α : Type} {f : α → Except (List Nd) Int} {u : α} {n : Int} (hu : f u = .ok n) : ∀ {l : List α} {ns : List Int}, evL f l = .ok ns → evL f (l ++ [u]) = .ok (ns ++ [n])
  | [], ns, h => by cases h; simp [evL, hu]
  | x :: l, ns, h => by
    simp only [evL] at h
    cases hx : f x with
    | error c => rw [hx] at h; cases h
    | ok m =>
      rw [hx] at h
      cases hl : evL f l with
      | error c => rw [hl] at h; cases h
      | ok ms =>
        rw [hl] at h
        cases h
        simp only [List.cons_append, evL, hx, evL_ok hu hl]
theorem evL_err {α : Type} {f : α → Except (List Nd) Int} {u : α} {c : List Nd} (hu : f u = .error c) (r : List α) : ∀ {l : List α} {ns : List Int}, evL f l = .ok ns → evL f (l ++ u :: r) = .error c
  | [], ns, _ => by simp [evL, hu]
  | x :: l, ns, h => by
    simp only [evL] at h
    cases hx : f x with
    | error c => rw [hx] at h; cases h
    | ok m =>
      rw [hx] at h
      cases hl : evL f l with
      | error c => rw [hl] at h; cases h
      | ok ms => simp only [List.cons_append, evL, hx, evL_err hu r hl]
theorem evL_step {α : Type} {f : α → Except (List Nd) Int} {kids : List α} {j : Nat} {u : α} (hu : kids[j]? = some u) {ns : List Int} (h : evL f (kids.take j) = .ok ns) :
    (∀ n, f u = .ok n → evL f (kids.take (j + 1)) = .ok (ns ++ [n])) ∧ (∀ c, f u = .error c → evL f kids = .error c) := by
  obtain ⟨hj, rfl⟩ := List.getElem?_eq_some_iff.1 hu
  refine ⟨fun n hn => ?_, fun c hc => ?_⟩
  · rw [List.take_succ_eq_append_getElem hj]
    exact evL_ok hn h
  · have hsp : kids = kids.take j ++ kids[j] :: kids.drop (j + 1) := by
      rw [← List.drop_eq_getElem_cons hj, List.take_append_drop]
    rw [hsp]
    exact evL_err hc _ h
theorem evL_len {α : Type} {f : α → Except (List Nd) Int} : ∀ {l : List α} {ns : List Int}, evL f l = .ok ns → ns.length = l.length
  | [], ns, h => by cases h; rfl
  | x :: l, ns, h => by
    simp only [evL] at h
    cases hx : f x with
    | error c => rw [hx] at h; cases h
    | ok m =>
      rw [hx] at h
      cases hl : evL f l with
      | error c => rw [hl] at h; cases h
      | ok ms => rw [hl] at h; cases h; simp [evL_len hl]

def unbL : List UInt8 := [117, 110, 98, 111, 117, 110, 100]
/-- A deed's answer, its refusal as a ball. -/
def thrown : Except ByteArray Int → Except (List Nd) Int
  | .ok n => .ok n
  | .error s => .error (atomC s.toList)
/-- The number by those of the Args. -/
def fromArgs (f : Int → Int → Except ByteArray Int) : Except (List Nd) (List Int) → Except (List Nd) Int
  | .error c => .error c
  | .ok ns => thrown (f (ns.getD 0 0) (ns.getD 1 0))
/-- The number of a part, by those of its Args. -/
def nodeR (x : TV) (r : Except (List Nd) (List Int)) : Except (List Nd) Int :=
  if x.k = 2 then .ok x.N else if x.k = 1 then .error (atomC unbL) else
    match opOf x.s.toList x.len with
    | none => .error (notC x.s.toList x.len)
    | some f => fromArgs f r
/-- The number of a term, or the ball. -/
def evT : {n : Nat} → Tm n → Except (List Nd) Int
  | 0, t => Empty.elim t
  | _ + 1, t => nodeR t.tv (evL evT t.kids)
theorem evT_succ {n : Nat} (x : TV) (kids : List (Tm n)) : evT (n := n + 1) ((x, kids) : TV × List (Tm n)) = nodeR x (evL evT kids) := rfl
/-- Each number of a term has 64 bits. -/
def numsT {n : Nat} (t : Tm n) : Prop := ∀ x ∈ parts t, inR x.N
theorem numsT_succ {n : Nat} {x : TV} {kids : List (Tm n)} (h : numsT (n := n + 1) ((x, kids) : TV × List (Tm n))) : inR x.N ∧ ∀ u ∈ kids, numsT u := by
  refine ⟨h x (by simp [parts, Tm.tv]), fun u hu y hy => h y ?_⟩
  simp only [parts, List.mem_cons, List.mem_flatMap, Tm.kids]
  exact .inr ⟨u, hu, hy⟩
theorem getD_in {ns : List Int} (h : ∀ n ∈ ns, inR n) (i : Nat) : inR (ns.getD i 0) := by
  rw [List.getD_eq_getElem?_getD]
  cases hx : ns[i]? with
  | none => simp [inR]
  | some n => exact h n (List.mem_of_getElem? hx)
theorem evT_in : ∀ {n : Nat} (t : Tm n), numsT t → ∀ m, evT t = .ok m → inR m := by
  intro n
  induction n with
  | zero => intro t; exact Empty.elim t
  | succ n ih =>
    intro t ht m hm
    obtain ⟨x, kids⟩ := t
    obtain ⟨hN, hk⟩ := numsT_succ ht
    rw [evT_succ] at hm
    unfold nodeR at hm
    generalize hE : evL evT kids = E at hm
    split at hm
    · cases hm; exact hN
    · split at hm
      · cases hm
      · split at hm
        · cases hm
        · rename_i f hf
          cases E with
          | error c => cases hm
          | ok ns =>
            have hns := hE
            simp only [fromArgs] at hm
            have hall : ∀ (l : List (Tm n)) (ns : List Int), (∀ u ∈ l, numsT u) → evL evT l = .ok ns → ∀ n ∈ ns, inR n := by
              intro l
              induction l with
              | nil => intro ns _ h; cases h; simp
              | cons u l ihl =>
                intro ns hu h
                simp only [evL] at h
                cases hx : evT u with
                | error c => rw [hx] at h; cases h
                | ok q =>
                  rw [hx] at h
                  cases hl : evL evT l with
                  | error c => rw [hl] at h; cases h
                  | ok ms =>
                    rw [hl] at h
                    cases h
                    intro n hn
                    rcases List.mem_cons.1 hn with rfl | hn
                    · exact ih u (hu u (by simp)) _ hx
                    · exact ihl ms (fun v hv => hu v (by simp [hv])) hl n hn
            have hns' := hall kids ns hk hns
            have := op_in hf (getD_in hns' 0) (getD_in hns' 1)
            cases hr : f (ns.getD 0 0) (ns.getD 1 0) with
            | error e => rw [hr] at hm; cases hm
            | ok q => rw [hr] at hm; cases hm; exact this.1 _ hr

/-- What number answers. -/
def NumSays (lo : Nat) (r : Except (List Nd) Int) (e : Ending) (W' : World) : Prop :=
  match r with
  | .ok n => e = .returned (.tuple #[.int .i64 n, noTerm.val, .int .i64 0])
  | .error c => ∃ x : TV, e = .returned (.tuple #[.int .i64 0, x.val, .int .i64 14]) ∧ HoldsT 3 lo W' x.val c
end Go.Proofs.Ytffbhinpmlcopab

