import Derived.Test.YtcjeeagnfmipgaaGreatDoorOd
/- Contracts for the law TermSays' function two, in the form that its walk takes. -/
namespace Go.Proofs.YtcjeeagnfmipgaaGreatDoor
open Go.RowKit Go.Shelf Go.Maps

set_option maxRecDepth 100000 in
set_option maxHeartbeats 2000000 in
theorem match_none {n : Nat} (p t : Tm n) (w : World) (hp : IsT w.heap.size w p) (ht : IsT w.heap.size w t) (okp : okT p = true) (okt : okT t = true) (hno : (matT p t []).1 = false) :
    Calls Tryz.prog 28 #[p.tv.val, t.tv.val] w fun e W' => e = .returned (.tuple #[.slice none 0 0, .bool false, .int .i64 0]) ∧ Below w.heap.size w W' := by
  have hc := checkTwo p t w hp ht
  have h0 : chkL [p, t] = 0 := chkL_yes (by simp [okp, okt])
  rw [h0] at hc
  have hmat := fun (W : World) (hb : Below w.heap.size w W) => matches_any (D := n) (n₀ := w.heap.size) hp.lim n p t (W.alloc (.map #[] 0)) W.heap.size [] (Nat.le_refl _) (Met.made n w.heap.size W) (hp.below (hb.alloc hb.size _)) (ht.below (hb.alloc hb.size _)) hb.size okp
  obtain ⟨⟨f, c⟩, hR⟩ : ∃ R, matT p t [] = R := ⟨_, rfl⟩
  rw [hR] at hmat hno
  simp only at hno
  subst hno
  clear hR
  simp only [TV.val] at hmat hc ⊢
  have HMAT := hide hmat
  clear h0 okp okt hp ht hmat
  go_enter Tryz.func28, Tryz.ntmps28
  go_wp2_with fail
  refine hc.mono ?_
  clear hc
  rintro e W2 ⟨rfl, hb2, bx, bby⟩
  have bx3 : BoxT (W2.alloc (.map #[] 0)) w.heap.size p.tv := bx.alloc _
  have by3 : BoxT (W2.alloc (.map #[] 0)) (w.heap.size + 1) t.tv := bby.alloc _
  have c0 := bx3.c0
  have c1 := bx3.c1
  have c2 := bx3.c2
  have c3 := bx3.c3
  have d0 := by3.c0
  have d1 := by3.c1
  have d2 := by3.c2
  have d3 := by3.c3
  clear bx bby bx3 by3
  have hmm := @run_makeMap Tryz.prog
  go_wp2_with fail
  clear hmm
  refine ((unhide HMAT) W2 hb2).mono ?_
  rintro e W4 ⟨rfl, hg4, hm4⟩
  clear HMAT c0 c1 c2 c3 d0 d1 d2 d3
  have hb4 : Below w.heap.size w W4 := (hb2.alloc hb2.size _).trans (grown_below hg4 hb2.size (by simp; have := hb2.size; omega))
  have HB4 := hide hb4
  clear hb4 hm4 hb2 hg4
  go_wp2_with fail
  exact bodyPost_ret (v := .tuple #[.slice none 0 0, .bool false, .int .i64 0]) (by simp [results, Tryz.results28, go_sem]) rfl ⟨rfl, unhide HB4⟩

/-- What matching answers, by codes. -/
def MatC (D : Nat) (cs : List (Int × List Nd)) (k : Nat) (m : Bool) (W : World) (la : Option Addr) (ll lc : Nat) : Prop :=
  (m = true ∧ LV D W (.slice la ll lc) k cs) ∨ (m = false ∧ ll = 0)
theorem MatC.below {D : Nat} {cs : List (Int × List Nd)} {k : Nat} {m : Bool} {W W' : World} {la : Option Addr} {ll lc : Nat} (h : MatC D cs k m W la ll lc) (hb : Below W.heap.size W W') : MatC D cs k m W' la ll lc := by
  rcases h with ⟨h1, h2⟩ | h
  · exact .inl ⟨h1, h2.below hb⟩
  · exact .inr h
theorem sameMat {D : Nat} {cs : List (Int × List Nd)} {k : Nat} {m : Bool} {W : World} {la la' : Option Addr} {ll lc ll' lc' : Nat} (h : MatC D cs k m W la ll lc) (h' : MatC D cs k m W la' ll' lc') :
    Calls Tryz.prog 49 #[.slice la ll lc, .slice la' ll' lc'] W fun e W' => e = .returned (.bool true) ∧ Below W.heap.size W W' := by
  rcases h with ⟨h1, h2⟩ | ⟨h1, h2⟩
  · rcases h' with ⟨g1, g2⟩ | ⟨g1, g2⟩
    · exact sameBinds_c h2 g2 rfl
    · rw [h1] at g1; cases g1
  · rcases h' with ⟨g1, g2⟩ | ⟨g1, g2⟩
    · rw [h1] at g1; cases g1
    · subst h2
      subst g2
      exact sameBinds_any (n := 0) [] [] la la' 0 0 lc lc' W ⟨rfl, by omega, .inl rfl⟩ ⟨rfl, by omega, .inl rfl⟩
theorem match_s {n : Nat} (p t : Tm n) (w : World) (hp : IsT w.heap.size w p) (ht : IsT w.heap.size w t) (okp : okT p = true) (okt : okT t = true) (hl : (parts p).length ≤ 4194304) (hn40 : n ≤ 1048576 := by omega) :
    Calls Tryz.prog 28 #[p.tv.val, t.tv.val] w fun e W' => ∃ (la : Option Addr) (ll lc : Nat), e = .returned (.tuple #[.slice la ll lc, .bool (matT p t []).1, .int .i64 0]) ∧ Below w.heap.size w W' ∧ MatC (n + 1) (insF (matT p t []).2) (code p).length (matT p t []).1 W' la ll lc := by
  by_cases hm : (matT p t []).1 = true
  · refine (match_any p t w hp ht okp okt (by rw [parts_code]; exact hl) (by omega)).mono fun e W' h => ?_
    obtain ⟨la, ll, lc, h1, h2, h3⟩ := h
    exact ⟨la, ll, lc, h1, h2, .inl ⟨hm, (h3 hm).lv⟩⟩
  · rw [Bool.not_eq_true] at hm
    refine (match_none p t w hp ht okp okt hm).mono fun e W' h => ?_
    exact ⟨none, 0, 0, by rw [hm]; exact h.1, h.2, .inr ⟨hm, rfl⟩⟩
theorem rmatch_s {n : Nat} (p t : Tm n) (w : World) (hp : IsT w.heap.size w p) (ht : IsT w.heap.size w t) (okp : okT p = true) (okt : okT t = true) (hl : (parts p).length ≤ 4194304) (hn40 : n ≤ 1048576 := by omega) :
    Calls Tryz.prog 48 #[p.tv.val, t.tv.val] w fun e W' => ∃ (la : Option Addr) (ll lc : Nat), e = .returned (.tuple #[.slice la ll lc, .bool (matT p t []).1]) ∧ Below w.heap.size w W' ∧ MatC (n + 1) (insF (matT p t []).2) (code p).length (matT p t []).1 W' la ll lc :=
  (rmatch_any p t w hp ht okp okt (by rw [parts_code]; exact hl)).mono fun e W' h => by
    obtain ⟨la, ll, lc, h1, h2, h3, h4⟩ := h
    refine ⟨la, ll, lc, h1, h2, ?_⟩
    by_cases hm : (matT p t []).1 = true
    · exact .inl ⟨hm, (h3 hm).lv.mono (by omega)⟩
    · rw [Bool.not_eq_true] at hm
      exact .inr ⟨hm, h4 hm⟩
/-- What Put answers, by codes. -/
def PutA (D : Nat) (ac : Option (List Nd)) (c : List Nd) (W : World) (x : TV) (r : Int) : Prop :=
  (ac = none ∧ x = zeroT ∧ r = 8) ∨ ((∃ d, ac = some d) ∧ r = 0 ∧ TC D W x.val c)
theorem PutA.below {D : Nat} {ac : Option (List Nd)} {c : List Nd} {W W' : World} {x : TV} {r : Int} (h : PutA D ac c W x r) (hb : Below W.heap.size W W') : PutA D ac c W' x r := by
  rcases h with h | ⟨h1, h2, h3⟩
  · exact .inl h
  · exact .inr ⟨h1, h2, h3.below hb⟩
theorem atCode_none {r : Option (Σ m, Tm m)} : atCode r = none ↔ r = none := by cases r <;> simp [atCode]
theorem put_s {n : Nat} (t u : Tm n) (ns : List Int) (a : Option Addr) (len cap : Nat) (w : World) (ht : IsT w.heap.size w t) (hu : IsT w.heap.size w u) (okt : okT t = true) (oku : okT u = true) (hN : IsN w a len ns) (hn40 : n ≤ 1048576 := by omega) :
    Calls Tryz.prog 23 #[t.tv.val, .slice a len cap, u.tv.val] w fun e W' => ∃ (x : TV) (r : Int), e = .returned (.tuple #[x.val, .int .i64 r]) ∧ Below w.heap.size w W' ∧ PutA (2 * n + 2) (atCode (atT ns t)) (putC ns t (code u)) W' x r :=
  (put_any t u ns a len cap w ht hu okt oku hN).mono fun e W' h => by
    obtain ⟨x, r, h1, h2, h3⟩ := h
    refine ⟨x, r, h1, h2, ?_⟩
    rcases h3 with ⟨g1, g2, g3⟩ | ⟨g1, g2, g3⟩
    · exact .inl ⟨atCode_none.2 g1, g2, g3⟩
    · exact .inr ⟨Option.ne_none_iff_exists'.1 (fun h => g1 (atCode_none.1 h)), g2, g3.tc⟩
theorem rput_s {n : Nat} (t u : Tm n) (ns : List Int) (a : Option Addr) (len cap : Nat) (w : World) (ht : IsT w.heap.size w t) (hu : IsT w.heap.size w u) (okt : okT t = true) (hN : IsN w a len ns) (hcap : len ≤ cap) (hat : ∃ d, atCode (atT ns t) = some d) (hn40 : n ≤ 1048576 := by omega) :
    Calls Tryz.prog 50 #[t.tv.val, .slice a len cap, u.tv.val] w fun e W' => ∃ x : TV, e = .returned x.val ∧ Below w.heap.size w W' ∧ TC (2 * n + 2) W' x.val (putC ns t (code u)) :=
  (rput_any u ns n t a len cap w hN hcap ht hu (Nat.le_refl _) okt (fun h => by obtain ⟨d, hd⟩ := hat; rw [h] at hd; cases hd)).mono fun e W' h => by
    obtain ⟨x, h1, h2, h3⟩ := h
    exact ⟨x, h1, h2, h3.tc.mono (by omega)⟩
end Go.Proofs.YtcjeeagnfmipgaaGreatDoor

