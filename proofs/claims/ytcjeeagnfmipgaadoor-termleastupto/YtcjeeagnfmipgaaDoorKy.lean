import Derived.Lib.ItoaNum
import Derived.Test.YtcjeeagnfmipgaaDoorLg
/- Plain mathematics of the keys that General writes: unlike pairs of terms have unlike keys. -/
namespace Go.Proofs.YtcjeeagnfmipgaaDoor
open Go.RowKit Go.Shelf Go.Maps

def digVal (l : List UInt8) : Nat := l.foldl (fun a d => a * 10 + (d.toNat - 48)) 0
theorem dig_toNat {k : Nat} (h : k < 10) : (UInt8.ofNat (48 + k)).toNat = 48 + k := by
  simp [UInt8.toNat_ofNat']; omega
theorem dec_val : ∀ (u : Nat), digVal (Lib.decDigits u) = u ∧ ∀ d ∈ Lib.decDigits u, 48 ≤ d.toNat ∧ d.toNat ≤ 57 := by
  intro u
  induction u using Nat.strongRecOn with
  | ind u ih =>
    rw [Lib.decDigits]
    split
    · rename_i h
      refine ⟨?_, fun d hd => ?_⟩
      · simp only [digVal, List.foldl_cons, List.foldl_nil]
        rw [dig_toNat h]; omega
      · simp only [List.mem_singleton] at hd
        subst hd
        rw [dig_toNat h]; omega
    · rename_i h
      obtain ⟨h1, h2⟩ := ih (u / 10) (by omega)
      have hm : u % 10 < 10 := by omega
      refine ⟨?_, fun d hd => ?_⟩
      · unfold digVal at h1 ⊢
        rw [List.foldl_append, h1]
        simp only [List.foldl_cons, List.foldl_nil]
        rw [dig_toNat hm]; omega
      · rcases List.mem_append.1 hd with hd | hd
        · exact h2 d hd
        · simp only [List.mem_singleton] at hd
          subst hd
          rw [dig_toNat hm]; omega
theorem dec_ne (u : Nat) : Lib.decDigits u ≠ [] := by
  rw [Lib.decDigits]
  split <;> simp
theorem itoa_blank (i : Int) : ∀ d ∈ Lib.itoa i, d ≠ 32 := by
  intro d hd e
  subst e
  unfold Lib.itoa at hd
  split at hd
  · rcases List.mem_cons.1 hd with h | h
    · exact absurd h (by decide)
    · have := ((dec_val _).2 _ h).1; exact absurd this (by decide)
  · have := ((dec_val _).2 _ hd).1; exact absurd this (by decide)
theorem itoa_inj {i j : Int} (h : Lib.itoa i = Lib.itoa j) : i = j := by
  have first : ∀ {u : Nat} {l : List UInt8}, Lib.decDigits u ≠ 45 :: l := fun {u l} e => by
    have h1 := ((dec_val u).2 45 (by rw [e]; simp)).1
    exact absurd h1 (by decide)
  unfold Lib.itoa at h
  by_cases hi : i < 0 <;> by_cases hj : j < 0
  · rw [if_pos hi, if_pos hj, List.cons.injEq] at h
    have h1 := congrArg digVal h.2
    rw [(dec_val _).1, (dec_val _).1] at h1
    omega
  · rw [if_pos hi, if_neg hj] at h
    exact (first h.symm).elim
  · rw [if_neg hi, if_pos hj] at h
    exact (first h).elim
  · rw [if_neg hi, if_neg hj] at h
    have h1 := congrArg digVal h
    rw [(dec_val _).1, (dec_val _).1] at h1
    omega
theorem split_blank : ∀ {A B r r' : List UInt8}, (∀ d ∈ A, d ≠ 32) → (∀ d ∈ B, d ≠ 32) → A ++ 32 :: r = B ++ 32 :: r' → A = B ∧ r = r'
  | [], [], _, _, _, _, h => by simpa using h
  | [], b :: B, _, _, _, hB, h => by
    simp only [List.nil_append, List.cons_append, List.cons.injEq] at h
    exact (hB b (by simp) h.1.symm).elim
  | a :: A, [], _, _, hA, _, h => by
    simp only [List.nil_append, List.cons_append, List.cons.injEq] at h
    exact (hA a (by simp) h.1).elim
  | a :: A, b :: B, r, r', hA, hB, h => by
    simp only [List.cons_append, List.cons.injEq] at h
    obtain ⟨h1, h2⟩ := split_blank (fun d hd => hA d (by simp [hd])) (fun d hd => hB d (by simp [hd])) h.2
    exact ⟨by rw [h.1, h1], h2⟩
theorem num_split {i j : Int} {r r' : List UInt8} (h : Lib.itoa i ++ 32 :: r = Lib.itoa j ++ 32 :: r') : i = j ∧ r = r' := by
  obtain ⟨h1, h2⟩ := split_blank (itoa_blank i) (itoa_blank j) h
  exact ⟨itoa_inj h1, h2⟩

/-- A part, written. -/
def encN (x : Nd) : List UInt8 := Lib.itoa x.1 ++ 32 :: (Lib.itoa x.2.1 ++ 32 :: (Lib.itoa (x.2.2.2 : Nat) ++ 32 :: (Lib.itoa (x.2.2.1.length : Nat) ++ 32 :: x.2.2.1)))
def enc (c : List Nd) : List UInt8 := c.flatMap encN
theorem encN_split {x y : Nd} {r r' : List UInt8} (h : encN x ++ r = encN y ++ r') : x = y ∧ r = r' := by
  unfold encN at h
  simp only [List.append_assoc, List.cons_append] at h
  obtain ⟨h1, h⟩ := num_split h
  obtain ⟨h2, h⟩ := num_split h
  obtain ⟨h3, h⟩ := num_split h
  obtain ⟨h4, h⟩ := num_split h
  have h4' : x.2.2.1.length = y.2.2.1.length := by omega
  have h3' : x.2.2.2 = y.2.2.2 := by omega
  obtain ⟨h5, h6⟩ := List.append_inj h h4'
  refine ⟨?_, h6⟩
  obtain ⟨a, b, c, d⟩ := x
  obtain ⟨a', b', c', d'⟩ := y
  simp only at h1 h2 h3' h5
  rw [h1, h2, h3', h5]
theorem enc_split : ∀ (c c' : List Nd) (k : Nat) {r r' : List UInt8}, runW k c = some [] → runW k c' = some [] → enc c ++ r = enc c' ++ r' → c = c' ∧ r = r'
  | c, c', 0, r, r', h, h', e => by
    simp only [runW, Option.some.injEq] at h h'
    subst h h'
    exact ⟨rfl, by simpa [enc] using e⟩
  | [], _, k + 1, _, _, h, _, _ => by simp [runW] at h
  | _ :: _, [], k + 1, _, _, _, h, _ => by simp [runW] at h
  | x :: c, y :: c', k + 1, r, r', h, h', e => by
    simp only [enc, List.flatMap_cons, List.append_assoc] at e
    obtain ⟨rfl, e2⟩ := encN_split e
    simp only [runW] at h h'
    obtain ⟨rfl, e3⟩ := enc_split c c' _ h h' e2
    exact ⟨rfl, e3⟩
def keyP (p : Pr) : List UInt8 := enc p.1 ++ enc p.2
/-- Unlike pairs have unlike keys. -/
theorem keyP_inj {p q : Pr} (h1 : Word p.1) (h2 : Word p.2) (h3 : Word q.1) (h4 : Word q.2) (h : keyP p = keyP q) : p = q := by
  unfold keyP at h
  obtain ⟨e1, e2⟩ := enc_split p.1 q.1 1 h1 h3 h
  have e3 : enc p.2 ++ [] = enc q.2 ++ [] := by simpa using e2
  obtain ⟨e4, _⟩ := enc_split p.2 q.2 1 h2 h4 e3
  exact Prod.ext e1 e4
end Go.Proofs.YtcjeeagnfmipgaaDoor

