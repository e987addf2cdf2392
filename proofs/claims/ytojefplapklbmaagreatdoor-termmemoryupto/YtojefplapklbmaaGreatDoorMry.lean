import Derived.Test.YtojefplapklbmaaGreatDoorMrw
/- Small pieces for the card: roomy of an empty path, the widths of a term's parts. -/
namespace Go.Proofs.YtojefplapklbmaaGreatDoor
open Go.RowKit Go.Shelf Go.Maps

set_option maxRecDepth 100000 in
set_option maxHeartbeats 1000000 in
theorem roomyI_zero (ad : Addr) (c : Nat) (w : World) :
    Calls Tryz.prog 12 #[.slice (some ad) 0 c, .int .i64 (-7)] w fun e W' => ∃ v, e = .returned v ∧ Below w.heap.size w W' ∧ RoomyK 3 1 m3 w.heap.size W' v 0 [] := by
  obtain ⟨i0, hi, hz0, hz1, hz2⟩ := info_parts Tryz.info_int
  obtain ⟨W1, hW1⟩ : ∃ W1, W1 = w := ⟨_, rfl⟩
  have hB1 : Below w.heap.size w W1 := by rw [hW1]; exact Below.refl _ w
  have hmk : (Instr.makeSlice 25 (.int .i64 0) (.int .i64 3)).run Tryz.prog W1 = .ok (.slice (some ⟨W1.heap.size, 0, none⟩) 0 3) (W1.alloc (.cells (madeCells #[.int .i64 0] (3 * 1)) 3)) := make_roomI 0 (by omega) W1
  obtain ⟨W2, hW2⟩ : ∃ W2, W2 = W1.alloc (.cells (madeCells #[.int .i64 0] ((3) * 1)) 3) := ⟨_, rfl⟩
  rw [← hW2] at hmk
  have hB2 : Below W1.heap.size W1 W2 := by rw [hW2]; exact (Below.refl _ W1).alloc (Nat.le_refl _) _
  have hown2 : W2.ownsRow w.heap.size 3 1 (.slice (some ⟨W1.heap.size, 0, none⟩) 0 (3)) 0 [] :=
    ⟨rfl, .inr ⟨W1.heap.size, 3, _, rfl, by rw [hW1]; simp, by rw [hW2]; exact heap_alloc_new W1 _, Nat.zero_le _, by unfold maxLen; omega, size_madeCells _ _, by simp⟩⟩
  have hB12 : Below w.heap.size w W2 := hB1.trans (hB2.mono hB1.size)
  have hz : W1.heap.size = w.heap.size := by rw [hW1]
  have hz2' : W2.heap.size = W1.heap.size + 1 := by rw [hW2]; simp
  rw [hz] at hmk hown2 hz2'
  rw [hW1] at hmk
  have HI := hide hi
  have HZ0 := hide hz0
  have HZ1 := hide hz1
  have HZ2 := hide hz2
  have HO := hide hown2
  have HB := hide hB12
  have HSZ := hide (show w.heap.size + 1 ≤ W2.heap.size by omega)
  clear hi hz0 hz1 hz2 hown2 hB12 hW1 hW2 hB1 hB2 hz hz2'
  go_enter Tryz.func12, Tryz.ntmps12
  go_wp2_with (first | (at_builtin; refine wpList_append_own_at _ rfl _ _ 25 rfl w.heap.size 3 i0 _ 1 8 Tryz.underlying25 (unhide HI) (unhide HZ0) (unhide HZ1) (unhide HZ2) rfl (by decide) (.slice (some ⟨w.heap.size, 0, none⟩) 0 (3)) 0 [] rfl (unhide HO) ad 0 c [] rfl rfl (fun j u h => by simp at h) (fun u h => by cases h) (by unfold maxLen; omega) (by omega) (by have := unhide HSZ; omega) ?_; intro v3 W3 hown3 hgrow3 hnil3 hbk3; have HO3 := hide hown3; have hsz3 : w.heap.size + 1 ≤ W3.heap.size := Nat.le_trans (unhide HSZ) hgrow3.size; have hb3 : Below w.heap.size w W3 := (unhide HB).grown hgrow3 (by have := unhide HSZ; omega) (fun k hk => by simp [Value.ownBlock] at hk; omega); have HN3 := hide (m3_new W3); clear hgrow3 hown3; clear hnil3 hbk3 hmk) | (at_builtin; go_must (refine wpList_append_own_at _ rfl _ _ 25 rfl w.heap.size 3 i0 _ 1 8 Tryz.underlying25 (unhide HI) (unhide HZ0) (unhide HZ1) (unhide HZ2) rfl (by decide) v3 (0 + 0) ([] ++ []) rfl (World.ownsRow.alloc (unhide HO3) _) ⟨W3.heap.size, 0, none⟩ 3 3 m3 rfl rfl (unhide HN3) m3_one (by unfold maxLen; omega) (by omega) (by simp; omega) ?_; intro v4 W4 hown4 hgrow4 hnil4 hbk4; obtain ⟨g, cap, cur, hv4, hg1, hg2, hg3, hg4, hg5, hg6⟩ := hown4.2.resolve_left (fun h => by omega); subst hv4; have hb4 : Below w.heap.size w W4 := (hb3.alloc (by omega) _).grown hgrow4 (by simp; omega) (fun k hk => by have := ((unhide HO3).lt k hk).1; omega); have hroomy : RoomyK 3 1 m3 w.heap.size W4 (.slice (some ⟨g, 0, none⟩) 0 cap) 0 [] := ⟨⟨g, cap, cur, rfl, by omega, hg2, hg5, by omega, by simpa using hg6⟩⟩; have hle : 0 ≤ cap := (by omega); have HF := hide (And.intro hb4 hroomy); clear hb4 hroomy hown4 hgrow4 hnil4 hbk4 hg1 hg2 hg3 hg4 hg5 hg6)))
  go_ret
  exact ⟨_, rfl, (unhide HF).1, (unhide HF).2⟩
/-- A path of any kind, with room. -/
theorem roomyI_all (a : Option Addr) (len cap : Nat) (ns : List Int) (W : World) (hN : IsN W a len ns) (hlen : len ≤ 4194304) (ha : a = none → len = 0 ∧ cap = 0) :
    Calls Tryz.prog 12 #[.slice a len cap, .int .i64 (-7)] W fun e W' => ∃ g cp, e = .returned (.slice (some ⟨g, 0, none⟩) len cp) ∧ Below W.heap.size W W' ∧ OwnedI W.heap.size W' g len cp ns := by
  cases a with
  | none =>
    obtain ⟨rfl, rfl⟩ := ha rfl
    exact roomyI_path none 0 0 ns W hN hlen (.inl ⟨rfl, rfl, rfl⟩)
  | some ad =>
    rcases hN.2.2 with h0 | ⟨b, off, e, _⟩
    · subst h0
      have hl0 : len = 0 := hN.1
      subst hl0
      refine (roomyI_zero ad cap W).mono fun e W' ⟨v, h1, h2, h3⟩ => ?_
      obtain ⟨g, cp, rfl, h4⟩ := ownedI_of (ns := []) rfl hlen h3
      exact ⟨g, cp, h1, h2, h4⟩
    · exact roomyI_path _ len cap ns W hN hlen (.inr ⟨b, off, e⟩)
/-- A part has no more parts than there are in all. -/
theorem wide_len : ∀ {n : Nat} {t : Tm n}, Wl t → ∀ x ∈ code t, x.2.2.2 ≤ (code t).length := by
  intro n
  induction n with
  | zero => intro t; exact Empty.elim t
  | succ n ih =>
    intro t hw x hx
    obtain ⟨y, kids⟩ := t
    obtain ⟨h1, h2⟩ := hw
    rw [code_succ] at hx ⊢
    have hk := codes_len kids
    rcases List.mem_cons.1 hx with rfl | hx
    · have h1' : y.len = kids.length := h1
      simp only [TV.nd, List.length_cons]
      omega
    · obtain ⟨u, hu, hxu⟩ := List.mem_flatMap.1 hx
      have h3 := ih (h2 u hu) x hxu
      have h4 := code_le hu
      simp only [List.length_cons]
      omega
theorem wide_of {n n₀ k : Nat} {W : World} {t : Tm n} (h : IsT n₀ W t) (hl : (code t).length ≤ k) : ∀ x ∈ code t, x.2.2.2 ≤ k := fun x hx => Nat.le_trans (wide_len h.wl x hx) hl
theorem IsL.each {n n₀ : Nat} {W : World} {a : Option Addr} {len : Nat} {bs : List (Int × Tm n)} (h : IsL n₀ W a len bs) : ∀ p ∈ bs, IsT n₀ W p.2 := fun p hp => by
  rcases h.2.2 with h0 | ⟨b, off, _, _, hk⟩
  · subst h0; cases hp
  · obtain ⟨j, hj⟩ := List.mem_iff_getElem?.1 hp
    exact (hk j p hj).2.2
end Go.Proofs.YtojefplapklbmaaGreatDoor

