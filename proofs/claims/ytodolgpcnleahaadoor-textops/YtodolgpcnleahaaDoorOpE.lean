import Derived.Test.YtodolgpcnleahaaDoorOpD
/- The contract of hornref.Ops, and that it says what tableOf says. -/
namespace Go.Proofs.YtodolgpcnleahaaDoor
open Go.RowKit Go.Shelf Go.Maps

def okA (x : OV) : Prop := (x.name.size : Int) ≤ 100 ∧ 1 ≤ x.prio ∧ x.prio ≤ 1200 ∧ 1 ≤ x.type ∧ x.type ≤ 5
def okS (x : OV) : Prop := ¬ x.name.toList = [44] ∧ ¬ x.name.toList = [124] ∧ ¬ x.name.toList = [91, 93] ∧ ¬ x.name.toList = [123, 125]
def like (x y : OV) : Prop := x.name.toList = y.name.toList ∧ (x.type ≤ 3 ↔ y.type ≤ 3)
/-- Operators that P9 allows. -/
def Good (l : List OV) : Prop := (∀ x ∈ l, okA x ∧ okS x) ∧ l.Pairwise (fun x y => ¬ like x y)
theorem good_snoc {l : List OV} {x : OV} : Good (l ++ [x]) ↔ Good l ∧ okA x ∧ okS x ∧ ∀ y ∈ l, ¬ like y x := by
  unfold Good
  rw [List.pairwise_append]
  constructor
  · rintro ⟨h1, h2, _, h3⟩
    exact ⟨⟨fun y hy => h1 y (List.mem_append_left _ hy), h2⟩, (h1 x (by simp)).1, (h1 x (by simp)).2, fun y hy => h3 y hy x (by simp)⟩
  · rintro ⟨⟨h1, h2⟩, h3, h4, h5⟩
    refine ⟨fun y hy => ?_, h2, by simp, fun y hy z hz => ?_⟩
    · rcases List.mem_append.1 hy with hy | hy
      · exact h1 y hy
      · simp at hy; subst hy; exact ⟨h3, h4⟩
    · simp at hz; subst hz; exact h5 y hy
theorem toListD (s : ByteArray) : s.toList = s.data.toList := ByteArray.toList_eq s
theorem mayB_iff {x : OV} : mayB x.name = true ∧ 1 ≤ x.prio ∧ x.prio ≤ 1200 ∧ 1 ≤ x.type ∧ x.type ≤ 5 ↔ okA x ∧ okS x := by
  simp only [mayB, okA, okS, decide_eq_true_eq]
  constructor
  · rintro ⟨⟨h1, h2, h3, h4, h5⟩, h6, h7, h8, h9⟩; exact ⟨⟨h5, h6, h7, h8, h9⟩, h1, h2, h3, h4⟩
  · rintro ⟨⟨h5, h6, h7, h8, h9⟩, h1, h2, h3, h4⟩; exact ⟨⟨h1, h2, h3, h4, h5⟩, h6, h7, h8, h9⟩
/-- The names so far, infix and prefix. -/
def Tells (l : List OV) (c : Names × Names) : Prop :=
  (∀ s : ByteArray, within c.1 s ↔ ∃ y ∈ l, y.type ≤ 3 ∧ y.name.toList = s.toList) ∧ ∀ s : ByteArray, within c.2 s ↔ ∃ y ∈ l, ¬ y.type ≤ 3 ∧ y.name.toList = s.toList
theorem within_snoc {c : Names} {n : List UInt8} {v : PV} {s : ByteArray} : within (c ++ [(n, v)]) s ↔ within c s ∨ n = s.data.toList := by
  unfold within
  constructor
  · rintro ⟨q, hq, e⟩
    rcases List.mem_append.1 hq with hq | hq
    · exact .inl ⟨q, hq, e⟩
    · simp at hq; subst hq; exact .inr e
  · rintro (⟨q, hq, e⟩ | e)
    · exact ⟨q, List.mem_append_left _ hq, e⟩
    · exact ⟨(n, v), by simp, e⟩
theorem addN_says {l : List OV} {c : Names × Names} {x : OV} (h : Tells l c) :
    ((okA x ∧ okS x ∧ ∀ y ∈ l, ¬ like y x) → ∃ d, addN c x = some d ∧ Tells (l ++ [x]) d) ∧ (¬ (okA x ∧ okS x ∧ ∀ y ∈ l, ¬ like y x) → addN c x = none) := by
  by_cases hm : mayB x.name = true ∧ 1 ≤ x.prio ∧ x.prio ≤ 1200
  · by_cases ht : x.type = 1 ∨ x.type = 2 ∨ x.type = 3
    · have ok := mayB_iff.1 ⟨hm.1, hm.2.1, hm.2.2, by omega, by omega⟩
      have hl : within c.1 x.name ↔ ∃ y ∈ l, like y x := by
        rw [h.1]
        exact ⟨fun ⟨y, h1, h2, h3⟩ => ⟨y, h1, h3, by omega⟩, fun ⟨y, h1, h2, h3⟩ => ⟨y, h1, h3.2 (by omega), h2⟩⟩
      have hno : (∀ y ∈ l, ¬ like y x) ↔ ¬ within c.1 x.name := by rw [hl]; exact ⟨fun h ⟨y, h1, h2⟩ => h y h1 h2, fun h y h1 h2 => h ⟨y, h1, h2⟩⟩
      rw [hno]
      unfold addN
      rw [if_pos hm, if_pos ht]
      by_cases hw : within c.1 x.name
      · rw [if_pos hw]
        exact ⟨fun h => (h.2.2 hw).elim, fun _ => rfl⟩
      · rw [if_neg hw]
        refine ⟨fun _ => ⟨_, rfl, fun s => ?_, fun s => ?_⟩, fun h => (h ⟨ok.1, ok.2, hw⟩).elim⟩
        · simp only [within_snoc, h.1, List.mem_append, List.mem_singleton, ← toListD]
          constructor
          · rintro (⟨y, h1, h2, h3⟩ | e)
            · exact ⟨y, .inl h1, h2, h3⟩
            · exact ⟨x, .inr rfl, by omega, e⟩
          · rintro ⟨y, h1 | rfl, h2, h3⟩
            · exact .inl ⟨y, h1, h2, h3⟩
            · exact .inr h3
        · simp only [h.2, List.mem_append, List.mem_singleton]
          constructor
          · rintro ⟨y, h1, h2, h3⟩; exact ⟨y, .inl h1, h2, h3⟩
          · rintro ⟨y, h1 | rfl, h2, h3⟩
            · exact ⟨y, h1, h2, h3⟩
            · omega
    · by_cases hu : x.type = 4 ∨ x.type = 5
      · have ok := mayB_iff.1 ⟨hm.1, hm.2.1, hm.2.2, by omega, by omega⟩
        have hl : within c.2 x.name ↔ ∃ y ∈ l, like y x := by
          rw [h.2]
          exact ⟨fun ⟨y, h1, h2, h3⟩ => ⟨y, h1, h3, by omega⟩, fun ⟨y, h1, h2, h3⟩ => ⟨y, h1, (by omega), h2⟩⟩
        have hno : (∀ y ∈ l, ¬ like y x) ↔ ¬ within c.2 x.name := by rw [hl]; exact ⟨fun h ⟨y, h1, h2⟩ => h y h1 h2, fun h y h1 h2 => h ⟨y, h1, h2⟩⟩
        rw [hno]
        unfold addN
        rw [if_pos hm, if_neg ht, if_pos hu]
        by_cases hw : within c.2 x.name
        · rw [if_pos hw]
          exact ⟨fun h => (h.2.2 hw).elim, fun _ => rfl⟩
        · rw [if_neg hw]
          refine ⟨fun _ => ⟨_, rfl, fun s => ?_, fun s => ?_⟩, fun h => (h ⟨ok.1, ok.2, hw⟩).elim⟩
          · simp only [h.1, List.mem_append, List.mem_singleton]
            constructor
            · rintro ⟨y, h1, h2, h3⟩; exact ⟨y, .inl h1, h2, h3⟩
            · rintro ⟨y, h1 | rfl, h2, h3⟩
              · exact ⟨y, h1, h2, h3⟩
              · omega
          · simp only [within_snoc, h.2, List.mem_append, List.mem_singleton, ← toListD]
            constructor
            · rintro (⟨y, h1, h2, h3⟩ | e)
              · exact ⟨y, .inl h1, h2, h3⟩
              · exact ⟨x, .inr rfl, by omega, e⟩
            · rintro ⟨y, h1 | rfl, h2, h3⟩
              · exact .inl ⟨y, h1, h2, h3⟩
              · exact .inr h3
      · have hno : ¬ (okA x ∧ okS x ∧ ∀ y ∈ l, ¬ like y x) := fun h => by have := h.1; unfold okA at this; omega
        refine ⟨fun h => (hno h).elim, fun _ => ?_⟩
        unfold addN
        rw [if_pos hm, if_neg ht, if_neg hu]
  · have hno : ¬ (okA x ∧ okS x ∧ ∀ y ∈ l, ¬ like y x) := fun h => by
      have h1 := mayB_iff.2 ⟨h.1, h.2.1⟩
      exact hm ⟨h1.1, h1.2.1, h1.2.2.1⟩
    refine ⟨fun h => (hno h).elim, fun _ => ?_⟩
    unfold addN
    rw [if_neg hm]
theorem foldN_says : ∀ (n : Nat) (l : List OV), l.length = n → (Good l → ∃ c, foldN ([], []) l = some c ∧ Tells l c) ∧ (¬ Good l → foldN ([], []) l = none)
  | 0, l, hn => by
    have e := List.length_eq_zero_iff.1 hn
    subst e
    exact ⟨fun _ => ⟨_, rfl, by simp [Tells, within]⟩, fun h => (h ⟨by simp, List.Pairwise.nil⟩).elim⟩
  | n + 1, l, hn => by
    rcases List.eq_nil_or_concat l with e | ⟨L, x, e⟩
    · subst e; simp at hn
    · rw [List.concat_eq_append] at e
      subst e
      have ih := foldN_says n L (by simpa using hn)
      rw [foldN_snoc, good_snoc]
      by_cases hg : Good L
      · obtain ⟨c, h1, h2⟩ := ih.1 hg
        rw [h1]
        have ha := addN_says (x := x) h2
        exact ⟨fun h => ha.1 h.2, fun h => ha.2 fun h' => h ⟨hg, h'⟩⟩
      · rw [ih.2 hg]
        exact ⟨fun h => (hg h.1).elim, fun _ => rfl⟩
theorem tabN_good (l : List OV) : (tabN l).isSome = true ↔ l.length ≤ 200 ∧ Good l := by
  unfold tabN
  have h := foldN_says _ l rfl
  by_cases h1 : 200 < l.length
  · rw [if_pos h1]; simp; omega
  · rw [if_neg h1]
    by_cases hg : Good l
    · obtain ⟨c, h2, _⟩ := h.1 hg
      rw [h2]
      simp [hg]; omega
    · rw [h.2 hg]; simp [hg]
end Go.Proofs.YtodolgpcnleahaaDoor

