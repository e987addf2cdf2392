import Derived.Test.YtcdgmjpgmiehcaaKs
import Derived.Deep.Cut
import Derived.Deep.RegionHeld3
/- The contract of term.order: it answers ordT of two terms; nothing that lay is changed. (Written by wip/ordgen.py.) -/
namespace Go.Proofs.Ytcdgmjpgmiehcaa
open Go.RowKit Go.Shelf

theorem lexL_stop {α : Type} {f : α → α → Int} : ∀ (a b : List α) (j : Nat) (u v : α), a[j]? = some u → b[j]? = some v → lexL f (a.take j) (b.take j) = 0 → f u v ≠ 0 → lexL f a b = f u v := by
  intro a
  induction a with
  | nil => intro b j u v h; simp at h
  | cons x a ih =>
    intro b j u v hu hv h hne
    cases b with
    | nil => simp at hv
    | cons y b =>
      cases j with
      | zero =>
        simp at hu hv; subst hu; subst hv
        simp only [lexL, thenC]; rw [if_pos hne]
      | succ j =>
        simp only [List.take_succ_cons, lexL, thenC_zero] at h
        simp only [List.getElem?_cons_succ] at hu hv
        simp only [lexL, thenC]
        rw [if_neg (by omega)]
        exact ih b j u v hu hv h.2 hne
theorem lexL_next {α : Type} {f : α → α → Int} : ∀ (a b : List α) (j : Nat) (u v : α), a[j]? = some u → b[j]? = some v → lexL f (a.take j) (b.take j) = 0 → f u v = 0 → lexL f (a.take (j + 1)) (b.take (j + 1)) = 0 := by
  intro a
  induction a with
  | nil => intro b j u v h; simp at h
  | cons x a ih =>
    intro b j u v hu hv h hne
    cases b with
    | nil => simp at hv
    | cons y b =>
      cases j with
      | zero =>
        simp at hu hv; subst hu; subst hv
        simp [lexL, thenC_zero, hne]
      | succ j =>
        simp only [List.take_succ_cons, lexL, thenC_zero] at h ⊢
        simp only [List.getElem?_cons_succ] at hu hv
        exact ⟨h.1, by simpa using ih b j u v hu hv h.2 hne⟩

/-- The j-th of the Args, in a later world. -/
theorem kid_at {n : Nat} {w wr : World} {a : Option Addr} {len : Nat} {kids : List (Tm n)} (hkids : kids = [] ∨ ∃ b off, a = some ⟨b, off, none⟩ ∧ b < w.heap.size ∧ ∀ j u, kids[j]? = some u → cellsAt w b (off + j * 4) u.tv ∧ IsT w.heap.size w u)
    (hbw : Below w.heap.size w wr) {j : Nat} (hj : j < len) (hl : len ≤ kids.length) :
    ∃ u b off, kids[j]? = some u ∧ a = some ⟨b, off, none⟩ ∧ cellsAt wr b (off + j * 4) u.tv ∧ IsT wr.heap.size wr u ∧ b < w.heap.size := by
  obtain ⟨u, hu⟩ : ∃ u, kids[j]? = some u := ⟨kids[j]'(by omega), List.getElem?_eq_getElem (by omega)⟩
  have hne : kids ≠ [] := by rintro rfl; simp at hu
  obtain ⟨b, off, ha, hbk, hk⟩ := hkids.resolve_left hne
  obtain ⟨⟨c0, c1, c2, c3⟩, hT⟩ := hk j u hu
  exact ⟨u, b, off, hu, ha, ⟨(hbw.cell (p := ⟨b, off + j * 4, none⟩) hbk).trans c0, (hbw.cell (p := ⟨b, off + j * 4 + 1, none⟩) hbk).trans c1, (hbw.cell (p := ⟨b, off + j * 4 + 2, none⟩) hbk).trans c2, (hbw.cell (p := ⟨b, off + j * 4 + 3, none⟩) hbk).trans c3⟩, (hT.below hbw).mono hbw.size, hbk⟩

theorem bcell {W w1 : World} (hb : Below W.heap.size W w1) : ∀ b o, b < W.heap.size → w1.cell? ⟨b, o, none⟩ = W.cell? ⟨b, o, none⟩ := fun b o h => hb.cell (p := ⟨b, o, none⟩) h
theorem two_boxes {w W1 : World} {c0 c1 c2 c3 d0 d1 d2 d3 : Value} (hb : Below ((w.alloc (.cells #[c0, c1, c2, c3] 24)).alloc (.cells #[d0, d1, d2, d3] 24)).heap.size ((w.alloc (.cells #[c0, c1, c2, c3] 24)).alloc (.cells #[d0, d1, d2, d3] 24)) W1) :
    (Below w.heap.size w W1 ∧ w.heap.size + 2 ≤ W1.heap.size) ∧ W1.cell? ⟨w.heap.size, 3, none⟩ = some c3 ∧ W1.cell? ⟨w.heap.size + 1, 3, none⟩ = some d3 := by
  have hs := hb.size
  have hs2 : ((w.alloc (.cells #[c0, c1, c2, c3] 24)).alloc (.cells #[d0, d1, d2, d3] 24)).heap.size = w.heap.size + 2 := by simp
  rw [hs2] at hb hs
  exact ⟨⟨(((Below.refl _ w).alloc (Nat.le_refl _) _).alloc (by simp) _).trans (hb.mono (by omega)), hs⟩, (hb.cell (p := ⟨w.heap.size, 3, none⟩) (by simp)).trans (by simp), (hb.cell (p := ⟨w.heap.size + 1, 3, none⟩) (by simp)).trans (by simp)⟩

/-- Two lists of terms that are left to be held against each other. -/
structure L2 where
  n : Nat
  a : Option Addr
  a' : Option Addr
  cap : Nat
  cap' : Nat
  ts : List (Tm n)
  ts' : List (Tm n)
def L2.fst (e : L2) : Lf := ⟨e.n, e.a, e.cap, e.ts⟩
def L2.snd (e : L2) : Lf := ⟨e.n, e.a', e.cap', e.ts'⟩
def L2.val (e : L2) : Value × Value := (e.fst.val, e.snd.val)
def L2.Is (n₀ : Nat) (W : World) (e : L2) : Prop := e.fst.Is n₀ W ∧ e.snd.Is n₀ W ∧ e.ts.length = e.ts'.length
theorem L2.Is.below {n₀ : Nat} {A B : World} (h : Below n₀ A B) {e : L2} (he : e.Is n₀ A) : e.Is n₀ B := ⟨he.1.below h, he.2.1.below h, he.2.2⟩
/-- How they compare, the last first. -/
def ordR : List L2 → Int
  | [] => 0
  | e :: r => thenC (lexL ordT e.ts e.ts') (ordR r)
def ordS (S : List L2) : Int := ordR S.reverse
theorem ordS_snoc (S : List L2) (e : L2) : ordS (S ++ [e]) = thenC (lexL ordT e.ts e.ts') (ordS S) := by simp [ordS, ordR]
theorem thenC_r0 (c : Int) : thenC c 0 = c := by unfold thenC; split <;> omega
theorem thenC_l0 (c : Int) : thenC 0 c = c := by unfold thenC; simp
theorem thenC_assoc (a b c : Int) : thenC (thenC a b) c = thenC a (thenC b c) := by
  unfold thenC
  by_cases h : a = 0 <;> simp [h]
def cntS (S : List L2) : Nat := (S.flatMap fun e => e.ts.flatMap parts).length
theorem cntS_snoc (S : List L2) (e : L2) : cntS (S ++ [e]) = cntS S + (e.ts.flatMap parts).length := by simp [cntS]
def pairL {n : Nat} (x y : Tm (n + 1)) : L2 := ⟨n, x.tv.a, y.tv.a, x.tv.cap, y.tv.cap, x.kids, y.kids⟩
theorem pairL_is {n₀ : Nat} {W : World} {n : Nat} {x y : Tm (n + 1)} (hx : IsT n₀ W x) (hy : IsT n₀ W y) (hl : x.tv.len = y.tv.len) : (pairL x y).Is n₀ W := ⟨kidsL_is hx, kidsL_is hy, by have h1 := hx.1; have h2 := hy.1; show x.kids.length = y.kids.length; omega⟩
theorem pairL_val {n₀ : Nat} {W : World} {n : Nat} {x y : Tm (n + 1)} (hx : IsT n₀ W x) (hy : IsT n₀ W y) : (pairL x y).val = (.slice x.tv.a x.tv.len x.tv.cap, .slice y.tv.a y.tv.len y.tv.cap) := by
  have h1 := kidsL_val hx
  have h2 := kidsL_val hy
  show ((kidsL x).val, (kidsL y).val) = _
  rw [h1, h2]
theorem depth2_set {n : Nat} {S : List L2} {e e' : L2} (h : ∀ i z, (S ++ [e])[i]? = some z → z.n + i ≤ n) (he : e'.n ≤ e.n) : ∀ i z, (S ++ [e'])[i]? = some z → z.n + i ≤ n := fun i z hz => by
  by_cases hi : i < S.length
  · exact h i z (by rw [List.getElem?_append_left hi] at hz ⊢; exact hz)
  · rw [List.getElem?_append_right (by omega)] at hz
    have h0 : i - S.length = 0 := by
      by_cases h1 : i - S.length = 0
      · exact h1
      · rw [List.getElem?_eq_none (by simp; omega)] at hz; cases hz
    rw [h0] at hz
    simp at hz
    subst hz
    have := h i e (by rw [List.getElem?_append_right (by omega), h0]; rfl)
    omega
theorem depth2_push {n : Nat} {S : List L2} {e : L2} (h : ∀ i z, S[i]? = some z → z.n + i ≤ n) (he : e.n + S.length ≤ n) : ∀ i z, (S ++ [e])[i]? = some z → z.n + i ≤ n := fun i z hz => by
  by_cases hi : i < S.length
  · exact h i z (by rw [List.getElem?_append_left hi] at hz; exact hz)
  · rw [List.getElem?_append_right (by omega)] at hz
    have h0 : i - S.length = 0 := by
      by_cases h1 : i - S.length = 0
      · exact h1
      · rw [List.getElem?_eq_none (by simp; omega)] at hz; cases hz
    rw [h0] at hz
    simp at hz
    subst hz
    omega
/-- The first of a list that is left, and what is left behind it. -/
theorem Lf.Is.first {n₀ n cap : Nat} {W : World} {a : Option Addr} {u : Tm (n + 1)} {r : List (Tm (n + 1))} (h : Lf.Is n₀ W ⟨n + 1, a, cap, u :: r⟩) : ∃ b off, a = some ⟨b, off, none⟩ ∧ b < n₀ ∧ cellsAt W b off u.tv ∧ IsT n₀ W u ∧ r.length + 1 ≤ cap ∧ ∀ A, (if cap = 1 then some (⟨b, off, none⟩ : Addr) else some ⟨b, off + 4, none⟩) = A → Lf.Is n₀ W ⟨n + 1, A, cap - 1, r⟩ := by
  have htl := tail_is h
  obtain ⟨i1, i2⟩ := h
  rcases i2 with i2 | ⟨b, off, ha, hb, hk⟩
  · cases i2
  · simp only at ha
    subst ha
    obtain ⟨hc, hT⟩ := hk 0 u rfl
    rw [Nat.zero_mul, Nat.add_zero] at hc
    refine ⟨b, off, rfl, hb, hc, hT, i1, fun A hA => ?_⟩
    have e : tailA (some ⟨b, off, none⟩) cap = A := by rw [← hA]; rfl
    rw [← e]
    exact htl
theorem kid_below {n n₀ : Nat} {w wr : World} {a : Option Addr} {len : Nat} {kids : List (Tm n)} (hkids : kids = [] ∨ ∃ b off, a = some ⟨b, off, none⟩ ∧ b < n₀ ∧ ∀ j u, kids[j]? = some u → cellsAt w b (off + j * 4) u.tv ∧ IsT n₀ w u)
    (hbw : Below n₀ w wr) {j : Nat} (hj : j < len) (hl : len ≤ kids.length) :
    ∃ u b off, kids[j]? = some u ∧ a = some ⟨b, off, none⟩ ∧ cellsAt wr b (off + j * 4) u.tv ∧ IsT n₀ wr u ∧ b < n₀ := by
  obtain ⟨u, hu⟩ : ∃ u, kids[j]? = some u := ⟨kids[j]'(by omega), List.getElem?_eq_getElem (by omega)⟩
  have hne : kids ≠ [] := by rintro rfl; simp at hu
  obtain ⟨b, off, ha, hbk, hk⟩ := hkids.resolve_left hne
  obtain ⟨⟨c0, c1, c2, c3⟩, hT⟩ := hk j u hu
  exact ⟨u, b, off, hu, ha, ⟨(hbw.cell (p := ⟨b, off + j * 4, none⟩) hbk).trans c0, (hbw.cell (p := ⟨b, off + j * 4 + 1, none⟩) hbk).trans c1, (hbw.cell (p := ⟨b, off + j * 4 + 2, none⟩) hbk).trans c2, (hbw.cell (p := ⟨b, off + j * 4 + 3, none⟩) hbk).trans c3⟩, hT.below hbw, hbk⟩
end Go.Proofs.Ytcdgmjpgmiehcaa

/- The contract of hornref.Same: it answers sameT of two terms; nothing that lay is changed. -/
namespace Go.Proofs.Ytcdgmjpgmiehcaa
open Go.RowKit Go.Shelf

theorem ret_bool {a b : Bool} (h : a = b) : Ending.returned (.bool a) = .returned (.bool b) := by rw [h]
theorem all2_stop {α : Type} {f : α → α → Bool} : ∀ (a b : List α) (j : Nat) (u v : α), a[j]? = some u → b[j]? = some v → f u v = false → all2 f a b = false := by
  intro a
  induction a with
  | nil => intro b j u v h; simp at h
  | cons x a ih =>
    intro b j u v hu hv hne
    cases b with
    | nil => simp at hv
    | cons y b =>
      cases j with
      | zero => simp at hu hv; subst hu; subst hv; simp [all2, hne]
      | succ j =>
        simp only [List.getElem?_cons_succ] at hu hv
        simp [all2, ih b j u v hu hv hne]
theorem all2_next {α : Type} {f : α → α → Bool} : ∀ (a b : List α) (j : Nat) (u v : α), a[j]? = some u → b[j]? = some v → all2 f (a.take j) (b.take j) = true → f u v = true → all2 f (a.take (j + 1)) (b.take (j + 1)) = true := by
  intro a
  induction a with
  | nil => intro b j u v h; simp at h
  | cons x a ih =>
    intro b j u v hu hv h hne
    cases b with
    | nil => simp at hv
    | cons y b =>
      cases j with
      | zero => simp at hu hv; subst hu; subst hv; simp [all2, hne]
      | succ j =>
        simp only [List.take_succ_cons, all2, Bool.and_eq_true] at h ⊢
        simp only [List.getElem?_cons_succ] at hu hv
        exact ⟨h.1, by simpa using ih b j u v hu hv h.2 hne⟩

set_option maxRecDepth 100000 in
set_option maxHeartbeats 1000000 in
theorem same_any : ∀ (n : Nat) (x y : Tm n) (w : World), IsT w.heap.size w x → IsT w.heap.size w y → Calls Try.prog 18 #[x.tv.val, y.tv.val] w fun e W' => e = .returned (.bool (sameT x y)) ∧ Below w.heap.size w W' := by
  intro n
  induction n with
  | zero => intro t; exact Empty.elim t
  | succ n ih =>
    intro x y w hx hy
    obtain ⟨⟨k, kN, s, a, len, cap⟩, kids⟩ := x
    obtain ⟨⟨k', kN', s', a', len', cap'⟩, kids'⟩ := y
    obtain ⟨hlen, hmax, hsm, hkids⟩ := hx
    obtain ⟨hlen', hmax', hsm', hkids'⟩ := hy
    simp only [Tm.tv, Tm.kids] at hlen hmax hsm hkids hlen' hmax' hsm' hkids'
    have HI := hide ih
    clear ih
    simp only [TV.val, Tm.tv, sameT, Tm.kids]
    cases hst : stop ⟨k, kN, s, a, len, cap⟩ ⟨k', kN', s', a', len', cap'⟩ with
    | false =>
      rw [Bool.false_and]
      have HS := hide hst
      clear hst hkids hkids' hlen hlen' HI
      go_enter Try.func18, Try.ntmps18
      go_wp2_with fail
      all_goals first | (go_ret; exact ⟨rfl, ((Below.refl _ w).alloc (Nat.le_refl _) _).alloc (by simp) _⟩) | skip
      exfalso
      have h := unhide HS
      clear HS
      have h1 : k = k' := by assumption
      have h2 : kN = kN' := by assumption
      have h3 : s.toList = s'.toList := by assumption
      have h4 : ((len : Int) != (len' : Int)) = false := by assumption
      simp at h4
      have h5 : len = len' := by omega
      simp [stop, h1, h2, h3, h5] at h
    | true =>
      rw [Bool.true_and]
      simp [stop] at hst
      obtain ⟨rfl, rfl, hs, hlq⟩ := hst
      have hl1 : len ≤ kids.length := by omega
      have hl2 : kids.length ≤ len := by omega
      have hl3 : len ≤ kids'.length := by omega
      have hl4 : kids'.length ≤ len := by omega
      have hl5 : (len : Int) ≤ len' := by omega
      have hl6 : ((len : Int) != (len' : Int)) = false := by simp; omega
      clear hlq hlen hlen'
      go_enter Try.func18, Try.ntmps18
      go_wp2_with fail
      obtain ⟨W1, hW1⟩ : ∃ W1, (w.alloc (.cells #[.int .i64 k, .int .i64 kN, .string s, .slice a len cap] 24)).alloc (.cells #[.int .i64 k, .int .i64 kN, .string s', .slice a' len' cap'] 24) = W1 := ⟨_, rfl⟩
      have hBB := Below.refl ((w.alloc (.cells #[.int .i64 k, .int .i64 kN, .string s, .slice a len cap] 24)).alloc (.cells #[.int .i64 k, .int .i64 kN, .string s', .slice a' len' cap'] 24)).heap.size ((w.alloc (.cells #[.int .i64 k, .int .i64 kN, .string s, .slice a len cap] 24)).alloc (.cells #[.int .i64 k, .int .i64 kN, .string s', .slice a' len' cap'] 24))
      obtain ⟨⟨hb1, hzz⟩, hcc, hcd⟩ := two_boxes hBB
      clear hBB
      rw [hW1] at hb1 hzz hcc hcd ⊢
      clear hW1
      go_loopw [5] (fun i wr => ∃ j : Nat, j ≤ len ∧ i = .int .i64 j ∧ all2 sameT (kids.take j) (kids'.take j) = true ∧ Below W1.heap.size W1 wr) (fun i _ => len - (intOf i).toNat)
      case atStart => exact ⟨0, Nat.zero_le _, rfl, by simp [all2], Below.refl _ _⟩
      case round =>
        obtain ⟨j, hj, rfl, ho, hb⟩ := hrel
        have hbw : Below w.heap.size w wr := hb1.trans (hb.mono (by omega))
        have HO := hide ho
        clear ho
        replace hcc := (hb.cell (p := ⟨w.heap.size, 3, none⟩) (by simp; omega)).trans hcc
        replace hcd := (hb.cell (p := ⟨w.heap.size + 1, 3, none⟩) (by simp; omega)).trans hcd
        by_cases hlt : j < len
        · obtain ⟨u, b, off, hu, rfl, ⟨c0, c1, c2, c3⟩, hT, hbk⟩ := kid_at hkids hbw hlt hl1
          obtain ⟨v, b', off', hv, rfl, ⟨d0, d1, d2, d3⟩, hT', hbk'⟩ := kid_at hkids' hbw hlt hl3
          have hj1 : (j : Int) < len := by omega
          have hj2 : (j : Int) < len' := by omega
          have ihu : Calls Try.prog 18 #[.agg #[.int .i64 u.tv.k, .int .i64 u.tv.N, .string u.tv.s, .slice u.tv.a u.tv.len u.tv.cap], .agg #[.int .i64 v.tv.k, .int .i64 v.tv.N, .string v.tv.s, .slice v.tv.a v.tv.len v.tv.cap]] wr.drew fun e W2 => e = .returned (.bool (sameT u v)) ∧ Below wr.heap.size wr W2 :=
            ((unhide HI) u v wr.drew (hT.below (Below.refl _ wr).drew) (hT'.below (Below.refl _ wr).drew)).mono fun e W2 h => ⟨h.1, (Below.refl _ wr).drew.trans h.2⟩
          have hy1 : w.heap.size < wr.heap.size := by have := hb.size; omega
          have hy2 : w.heap.size + 1 < wr.heap.size := by have := hb.size; omega
          have hy3 : b < wr.heap.size := by omega
          have hy4 : b' < wr.heap.size := by omega
          have hstop := all2_stop (f := sameT) kids kids' j u v hu hv
          have hnext := all2_next (f := sameT) kids kids' j u v hu hv (unhide HO)
          clear hkids hkids' hT hT' hu hv
          generalize sameT u v = d at *
          have HN := hide hnext
          have HS := hide hstop
          clear hnext hstop
          cases d with
          | true =>
            go_wp2_with fail
            go_region_held3 (fun w' => w'.cell? ⟨w.heap.size, 3, none⟩ = some (.slice (some ⟨b, off, none⟩) len cap) ∧ w'.cell? ⟨w.heap.size + 1, 3, none⟩ = some (.slice (some ⟨b', off', none⟩) len' cap')
              ∧ w'.cell? ⟨b, off + j * 4, none⟩ = some (.int .i64 u.tv.k) ∧ w'.cell? ⟨b, off + j * 4 + 1, none⟩ = some (.int .i64 u.tv.N) ∧ w'.cell? ⟨b, off + j * 4 + 2, none⟩ = some (.string u.tv.s) ∧ w'.cell? ⟨b, off + j * 4 + 3, none⟩ = some (.slice u.tv.a u.tv.len u.tv.cap)
              ∧ w'.cell? ⟨b', off' + j * 4, none⟩ = some (.int .i64 v.tv.k) ∧ w'.cell? ⟨b', off' + j * 4 + 1, none⟩ = some (.int .i64 v.tv.N) ∧ w'.cell? ⟨b', off' + j * 4 + 2, none⟩ = some (.string v.tv.s) ∧ w'.cell? ⟨b', off' + j * 4 + 3, none⟩ = some (.slice v.tv.a v.tv.len v.tv.cap)) (go_keep)
              (first | (go_at_call 18; refine ihu.mono ?_; clear ihu; rintro e W2 ⟨rfl, hb2⟩; have hbc := bcell hb2))
            go_wp2_with fail
            go_roundw
            case rel => exact ⟨j + 1, by omega, by go_num, (unhide HN) (by simp), hb.trans (hb2.mono hb.size)⟩
            case measure => simp [intOf]; omega
          | false =>
            go_wp2_with fail
            go_region_held3 (fun w' => w'.cell? ⟨w.heap.size, 3, none⟩ = some (.slice (some ⟨b, off, none⟩) len cap) ∧ w'.cell? ⟨w.heap.size + 1, 3, none⟩ = some (.slice (some ⟨b', off', none⟩) len' cap')
              ∧ w'.cell? ⟨b, off + j * 4, none⟩ = some (.int .i64 u.tv.k) ∧ w'.cell? ⟨b, off + j * 4 + 1, none⟩ = some (.int .i64 u.tv.N) ∧ w'.cell? ⟨b, off + j * 4 + 2, none⟩ = some (.string u.tv.s) ∧ w'.cell? ⟨b, off + j * 4 + 3, none⟩ = some (.slice u.tv.a u.tv.len u.tv.cap)
              ∧ w'.cell? ⟨b', off' + j * 4, none⟩ = some (.int .i64 v.tv.k) ∧ w'.cell? ⟨b', off' + j * 4 + 1, none⟩ = some (.int .i64 v.tv.N) ∧ w'.cell? ⟨b', off' + j * 4 + 2, none⟩ = some (.string v.tv.s) ∧ w'.cell? ⟨b', off' + j * 4 + 3, none⟩ = some (.slice v.tv.a v.tv.len v.tv.cap)) (go_keep)
              (first | (go_at_call 18; refine ihu.mono ?_; clear ihu; rintro e W2 ⟨rfl, hb2⟩; have hbc := bcell hb2))
            go_wp2_with fail
            go_ret
            exact ⟨ret_bool ((unhide HS) (by simp)).symm, hbw.trans (hb2.mono hbw.size)⟩
        · have ht : kids.take j = kids := List.take_of_length_le (by omega)
          have ht' : kids'.take j = kids' := List.take_of_length_le (by omega)
          have HT := hide ht
          have HT' := hide ht'
          clear ht ht' hkids hkids'
          go_wp2_with fail
          go_ret
          exact ⟨ret_bool (by have h := unhide HO; rw [unhide HT, unhide HT'] at h; rw [h]), hbw⟩
end Go.Proofs.Ytcdgmjpgmiehcaa

