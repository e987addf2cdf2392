import Derived.Test.YtffbhinpmlcopabArU3
/- hornref.Eval: whole. -/
namespace Go.Proofs.Ytffbhinpmlcopab
open Go.RowKit Go.Shelf

theorem oneR_is {n : Nat} (g : Int → Except ByteArray Int) (u : Tm n) : fromArgs (lone g) (evL evT [u]) = oneR g (evT u) := by
  simp only [evL]
  cases evT u <;> rfl
theorem twoR_is {n : Nat} (f : Int → Int → Except ByteArray Int) (u v : Tm n) : fromArgs f (evL evT [u, v]) = twoR f (evT u) (evT v) := by
  simp only [evL]
  cases evT u <;> cases evT v <;> rfl
theorem reval_any : ∀ {n : Nat} (t : Tm n) (W : World), IsT W.heap.size W t → okT t = true → numsT t →
    Calls Try.prog 14 #[t.tv.val] W fun e W' => RSays W.heap.size (evT t) e W' ∧ Below W.heap.size W W' := by
  intro n
  induction n with
  | zero => intro t; exact Empty.elim t
  | succ n ih =>
    intro t W hT hok hnum
    obtain ⟨⟨k, N, s, a, len, cap⟩, kids⟩ := t
    obtain ⟨hlen, hmax, hsm, hkids⟩ := hT
    rw [okT_succ] at hok
    obtain ⟨hx, hks⟩ := Bool.and_eq_true_iff.1 hok
    have hks' : ∀ u ∈ kids, okT u = true := List.all_eq_true.1 hks
    obtain ⟨hN, hnk⟩ := numsT_succ hnum
    rw [evT_succ]
    have hk : k = 1 ∨ k = 2 ∨ k = 3 ∨ k = 4 := by
      unfold TV.ok wmB at hx
      simp only at hx
      by_cases h1 : k = 1
      · exact .inl h1
      by_cases h2 : k = 2
      · exact .inr (.inl h2)
      by_cases h3 : k = 3
      · exact .inr (.inr (.inl h3))
      by_cases h4 : k = 4
      · exact .inr (.inr (.inr h4))
      simp [h1, h2, h3, h4] at hx
    rcases hk with rfl | rfl | hk
    · exact reval_var N s a len cap W
    · exact reval_int N s a len cap W
    · have hk1 : k ≠ 2 := by omega
      have hk2 : k ≠ 1 := by omega
      unfold nodeR
      simp only [hk1, hk2, if_false]
      simp only [Tm.tv, Tm.kids] at hlen hkids hsm
      cases ho : opOf s.toList len with
      | none => exact reval_none k N s a len cap hk hsm ho W
      | some f =>
        have hl := op_len ho
        have hl12 : len = 1 ∨ len = 2 := by omega
        rcases hl12 with rfl | rfl
        · obtain ⟨u, rfl⟩ := List.length_eq_one_iff.1 hlen.symm
          have ho' : (oneOp s.toList).map lone = some f := ho
          obtain ⟨g, hg, rfl⟩ := Option.map_eq_some_iff.1 ho'
          obtain ⟨b, off, rfl, hb, hk'⟩ := hkids.resolve_left (by simp)
          obtain ⟨hc, hTu⟩ := hk' 0 u rfl
          rw [Nat.zero_mul, Nat.add_zero] at hc
          simp only [oneR_is]
          exact reval_one ih k N s b off cap u W hk g hg hb hc hTu (hks' u (by simp)) (hnk u (by simp))
        · obtain ⟨u, v, rfl⟩ : ∃ u v, kids = [u, v] := by
            match kids, hlen with
            | [u, v], _ => exact ⟨u, v, rfl⟩
          have ho' : twoOp s.toList = some f := by rw [← ho]; unfold opOf; rw [if_neg (by decide), if_pos rfl]
          obtain ⟨b, off, rfl, hb, hk'⟩ := hkids.resolve_left (by simp)
          obtain ⟨hc, hTu⟩ := hk' 0 u rfl
          obtain ⟨hc', hTv⟩ := hk' 1 v rfl
          rw [Nat.zero_mul, Nat.add_zero] at hc
          rw [Nat.one_mul] at hc'
          simp only [twoR_is]
          exact reval_two ih k N s b off cap u v W hk f ho' hb hc hTu (hks' u (by simp)) (hnk u (by simp)) hc' hTv (hks' v (by simp)) (hnk v (by simp))
end Go.Proofs.Ytffbhinpmlcopab

