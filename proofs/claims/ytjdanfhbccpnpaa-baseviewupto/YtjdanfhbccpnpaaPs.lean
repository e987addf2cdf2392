import Derived.Test.YtjdanfhbccpnpaaLr
import Derived.Test.YtjdanfhbccpnpaaH
import Derived.Deep.QuietTactic
import Derived.BigQuiet
import Derived.Deep.RegionWith
/- The contracts of term.copyOf, of a binary search for a bind (term.find), and of what a variable becomes by a list of binds. -/
namespace Go.Proofs.Ytjdanfhbccpnpaa
open Go.RowKit Go.Shelf

theorem empty_list : (⟨#[]⟩ : ByteArray).toList = [] := by rw [ByteArray.toList_eq]
theorem varV_nd (N : Int) : (varV N).nd = varNd N := by simp only [varV, varNd, TV.nd, empty_list]
theorem variable_becomes (w : World) : Becomes 48 #[] (fun N => [varNd N]) 1 w := fun N W _ _ _ =>
  (variable_any N W).mono fun _ W' h => ⟨_, h.1, h.2, by have hh := holds_leaf (varV N) rfl rfl rfl (by simp [varV, ByteArray.size]) W.heap.size W'; rw [varV_nd] at hh; exact hh⟩

theorem sub_var {n : Nat} {t : Tm n} (h : okT t = true) : (code t).flatMap (subN fun N => [varNd N]) = code t := by
  have key : ∀ l : List TV, l.all TV.ok = true → (l.map TV.nd).flatMap (subN fun N => [varNd N]) = l.map TV.nd := by
    intro l
    induction l with
    | nil => intro _; rfl
    | cons x l ih =>
      intro hl
      rw [List.all_cons, Bool.and_eq_true] at hl
      rw [List.map_cons, List.flatMap_cons, ih hl.2]
      have : subN (fun N => [varNd N]) x.nd = [x.nd] := by
        unfold subN
        by_cases hk : x.nd.1 = 1
        · rw [if_pos hk]
          have hw := hl.1
          unfold TV.ok at hw
          rcases wm_cases hw with ⟨h1, _, _, h4, h5⟩ | ⟨h1, _⟩ | ⟨h1, _⟩
          · simp [varNd, TV.nd, h1, h4, h5]
          · simp only [TV.nd] at hk; omega
          · simp only [TV.nd] at hk; omega
        · rw [if_neg hk]
      rw [this]; rfl
  exact key (parts t) h

set_option maxRecDepth 100000 in
set_option maxHeartbeats 1000000 in
/-- term.copyOf. -/
theorem copy_any {n : Nat} (t : Tm n) (W : World) (hT : IsT W.heap.size W t) (hok : okT t = true) :
    Calls Try.prog 45 #[t.tv.val] W fun e W' => ∃ x : TV, e = .returned x.val ∧ Below W.heap.size W W' ∧ HoldsT (n + 1) W.heap.size W' x.val (code t) := by
  have hB : Below W.heap.size W ((W.alloc (.cells #[.int .i64 t.tv.k, .int .i64 t.tv.N, .string t.tv.s, .slice t.tv.a t.tv.len t.tv.cap] 24)).alloc (.cells #[.int .i64 0, .int .i64 0, .string ⟨#[]⟩, .slice none 0 0] 24)) := ((Below.refl _ W).alloc (Nat.le_refl _) _).alloc (by simp) _
  have hr := replace_any 48 #[] (fun N => [varNd N]) 1 ((W.alloc (.cells #[.int .i64 t.tv.k, .int .i64 t.tv.N, .string t.tv.s, .slice t.tv.a t.tv.len t.tv.cap] 24)).alloc (.cells #[.int .i64 0, .int .i64 0, .string ⟨#[]⟩, .slice none 0 0] 24)) (Nat.le_refl _) (enters_of Try.func48 (by kernel_rfl) rfl) (variable_becomes _) n t _ (Below.refl _ _) ((hT.below hB).mono hB.size) hok
  rw [sub_var hok] at hr
  clear hT hok
  simp only [TV.val] at hr ⊢
  go_enter Try.func45, Try.ntmps45
  go_wp2_with fail
  refine hr.mono ?_
  clear hr
  rintro e W1 ⟨v, rfl, hb1, hv⟩
  obtain ⟨t1, ht1, -⟩ := hv _ (Nat.le_refl _)
  subst ht1
  have hbk := hb1.block (W.heap.size + 1) (by simp)
  have hnew := World.alloc_heap_new (W.alloc (.cells #[.int .i64 t.tv.k, .int .i64 t.tv.N, .string t.tv.s, .slice t.tv.a t.tv.len t.tv.cap] 24)) (.cells #[.int .i64 0, .int .i64 0, .string ⟨#[]⟩, .slice none 0 0] 24)
  rw [World.size_alloc] at hnew
  obtain ⟨⟨z0, z1, z2, z3⟩, y0, y1, y2, y3⟩ := zbox_kept (hbk.trans hnew)
  have hb2 := below_two hb1
  have hsz : ((W.alloc (.cells #[.int .i64 t.tv.k, .int .i64 t.tv.N, .string t.tv.s, .slice t.tv.a t.tv.len t.tv.cap] 24)).alloc (.cells #[.int .i64 0, .int .i64 0, .string ⟨#[]⟩, .slice none 0 0] 24)).heap.size = W.heap.size + 2 := by simp
  rw [hsz] at hv
  have hfin : HoldsT (n + 1) W.heap.size (set4 W1 (W.heap.size + 1) 0 t1.tv) t1.tv.val (code t) := (holds_set4 hv (by omega) 0 t1.tv).mono (Nat.le_refl _) (by omega)
  have hbf : Below W.heap.size W (set4 W1 (W.heap.size + 1) 0 t1.tv) := set4_below hb2 (by omega) 0 t1.tv
  have HF := hide hfin
  have HB := hide hbf
  clear hfin hbf hsz hv hb1 hb2 hbk hnew hB
  simp only [TV.val]
  go_wp2_with fail
  exact bodyPost_ret (v := t1.tv.val) (by simp [results, Try.results45, go_sem, TV.val, z0, z1, z2, z3]) rfl ⟨t1.tv, rfl, unhide HB, unhide HF⟩

/-- A list of binds in memory. -/
def IsL (n₀ : Nat) (W : World) {n : Nat} (a : Option Addr) (len : Nat) (bs : List (Int × Tm n)) : Prop :=
  len = bs.length ∧ len ≤ 9223372036854775807 ∧ (bs = [] ∨ ∃ b off, a = some ⟨b, off, none⟩ ∧ b < n₀ ∧ ∀ j p, bs[j]? = some p → W.cell? ⟨b, off + j * 5, none⟩ = some (.int .i64 p.1) ∧ cellsAt W b (off + j * 5 + 1) p.2.tv ∧ IsT n₀ W p.2)
theorem IsL.below {n₀ : Nat} {A B : World} (h : Below n₀ A B) {n : Nat} {a : Option Addr} {len : Nat} {bs : List (Int × Tm n)} (hl : IsL n₀ A a len bs) : IsL n₀ B a len bs := by
  obtain ⟨h1, h2, h3⟩ := hl
  refine ⟨h1, h2, ?_⟩
  rcases h3 with h3 | ⟨b, off, ha, hb, hk⟩
  · exact .inl h3
  · refine .inr ⟨b, off, ha, hb, fun j p hp => ?_⟩
    obtain ⟨k1, k2, k3⟩ := hk j p hp
    exact ⟨(h.cell (p := ⟨b, off + j * 5, none⟩) hb).trans k1, k2.kept (h.block b hb), k3.below h⟩
theorem IsL.mono {n₀ n₁ : Nat} (hle : n₀ ≤ n₁) {A : World} {n : Nat} {a : Option Addr} {len : Nat} {bs : List (Int × Tm n)} (hl : IsL n₀ A a len bs) : IsL n₁ A a len bs := by
  obtain ⟨h1, h2, h3⟩ := hl
  refine ⟨h1, h2, ?_⟩
  rcases h3 with h3 | ⟨b, off, ha, hb, hk⟩
  · exact .inl h3
  · exact .inr ⟨b, off, ha, by omega, fun j p hp => by
      obtain ⟨k1, k2, k3⟩ := hk j p hp
      exact ⟨k1, k2, k3.mono hle⟩⟩

/-- The j-th bind, in a later world. -/
theorem bind_at {n : Nat} {w wr : World} {a : Option Addr} {len : Nat} {bs : List (Int × Tm n)} (hl : IsL w.heap.size w a len bs) (hbw : Below w.heap.size w wr) {j : Nat} (hj : j < len) :
    ∃ V u b off, bs[j]? = some (V, u) ∧ a = some ⟨b, off, none⟩ ∧ b < w.heap.size ∧ IsT wr.heap.size wr u ∧ wr.cell? ⟨b, off + j * 5, none⟩ = some (.int .i64 V) ∧ wr.cell? ⟨b, off + j * 5 + 1, none⟩ = some (.int .i64 u.tv.k) ∧ wr.cell? ⟨b, off + j * 5 + 2, none⟩ = some (.int .i64 u.tv.N) ∧ wr.cell? ⟨b, off + j * 5 + 3, none⟩ = some (.string u.tv.s) ∧ wr.cell? ⟨b, off + j * 5 + 4, none⟩ = some (.slice u.tv.a u.tv.len u.tv.cap) := by
  obtain ⟨h1, h2, h3⟩ := hl.below hbw
  obtain ⟨p, hp⟩ : ∃ p, bs[j]? = some p := ⟨bs[j]'(by omega), List.getElem?_eq_getElem (by omega)⟩
  have hne : bs ≠ [] := by rintro rfl; simp at hp
  obtain ⟨b, off, ha, hb, hk⟩ := h3.resolve_left hne
  obtain ⟨k1, k2, k3⟩ := hk j p hp
  exact ⟨p.1, p.2, b, off, hp, ha, hb, k3.mono hbw.size, k1, k2.1, k2.2.1, k2.2.2.1, k2.2.2.2⟩

/-- Rising by Var. -/
def Rises {n : Nat} (bs : List (Int × Tm n)) : Prop := ∀ (i j : Nat) (p q : Int × Tm n), bs[i]? = some p → bs[j]? = some q → i < j → p.1 < q.1

theorem mid_wrap (x : Int) (h0 : 0 ≤ x) (h1 : x < 18446744073709551616) : IntKind.u64.wrap (wrap64 x) = x := by
  by_cases h : x < 9223372036854775808
  · have e : wrap64 x = x := by unfold wrap64; omega
    rw [e]
    simp [IntKind.wrap, IntKind.bits, IntKind.signed]; omega
  · have e : wrap64 x = x - 18446744073709551616 := by unfold wrap64; omega
    rw [e]
    simp [IntKind.wrap, IntKind.bits, IntKind.signed]; omega

end Go.Proofs.Ytjdanfhbccpnpaa

/- The contracts of term.becoming and its closure: what a variable becomes by a list of binds. -/
namespace Go.Proofs.Ytjdanfhbccpnpaa
open Go.RowKit Go.Shelf

/-- The binds by their codes. -/
def cb {n : Nat} (bs : List (Int × Tm n)) : List (Int × List Nd) := bs.map fun p => (p.1, code p.2)
/-- What a variable becomes. -/
def lookC (c : List (Int × List Nd)) (N : Int) : List Nd := match c.find? (fun p => p.1 == N) with | some p => p.2 | none => [varNd N]

theorem Rises.unique {n : Nat} {bs : List (Int × Tm n)} (h : Rises bs) {i j : Nat} {p q : Int × Tm n} (hi : bs[i]? = some p) (hj : bs[j]? = some q) (e : p.1 = q.1) : i = j := by
  by_cases h1 : i < j
  · have := h i j p q hi hj h1; omega
  · by_cases h2 : j < i
    · have := h j i q p hj hi h2; omega
    · omega
theorem lookC_some {n : Nat} {bs : List (Int × Tm n)} (h : Rises bs) {i : Nat} {p : Int × Tm n} (hi : bs[i]? = some p) : lookC (cb bs) p.1 = code p.2 := by
  unfold lookC cb
  rw [List.find?_map]
  cases hf : bs.find? ((fun q : Int × List Nd => q.1 == p.1) ∘ fun p => (p.1, code p.2)) with
  | none =>
    have := List.find?_eq_none.1 hf p (List.mem_of_getElem? hi)
    simp at this
  | some q =>
    have hq := List.find?_some hf
    simp at hq
    obtain ⟨j, hj⟩ := List.mem_iff_getElem?.1 (List.mem_of_find?_eq_some hf)
    have e := h.unique hj hi hq
    subst e
    rw [hi] at hj
    cases hj
    rfl
theorem lookC_none {n : Nat} {bs : List (Int × Tm n)} {N : Int} (h : ∀ p ∈ bs, p.1 ≠ N) : lookC (cb bs) N = [varNd N] := by
  unfold lookC cb
  rw [List.find?_map]
  have : bs.find? ((fun q : Int × List Nd => q.1 == N) ∘ fun p => (p.1, code p.2)) = none := List.find?_eq_none.2 fun p hp => by simpa using h p hp
  rw [this]; rfl

/-- One new block ahead of a callee that keeps what lay. -/
theorem below_one {W W1 : World} {o : Obj} (h : Below (W.alloc o).heap.size (W.alloc o) W1) : Below W.heap.size W W1 :=
  ((Below.refl _ W).alloc (Nat.le_refl _) _).trans (h.mono (by simp))

end Go.Proofs.Ytjdanfhbccpnpaa

/- The contracts of term.isRising and term.checkBinds. -/
namespace Go.Proofs.Ytjdanfhbccpnpaa
open Go.RowKit Go.Shelf

/-- A substitution: numbers of variables, rising. -/
def Subst {n : Nat} (bs : List (Int × Tm n)) : Prop := (∀ p ∈ bs, 0 ≤ p.1 ∧ p.1 ≤ 1099511627776) ∧ Rises bs

/-- What isRising answers. -/
def RiseSays {n : Nat} (bs : List (Int × Tm n)) (e : Ending) : Prop := ∃ f : Bool, e = .returned (.bool f) ∧ (f = true ↔ Subst bs)
theorem rise_no {n : Nat} {bs : List (Int × Tm n)} (h : ¬ Subst bs) : RiseSays bs (.returned (.bool false)) := ⟨false, rfl, (fun h => by cases h), fun k => (h k).elim⟩
theorem rise_yes {n : Nat} {bs : List (Int × Tm n)} (h : Subst bs) : RiseSays bs (.returned (.bool true)) := ⟨true, rfl, fun _ => h, fun _ => rfl⟩
theorem subst_take_succ {n : Nat} {bs : List (Int × Tm n)} {j : Nat} {p : Int × Tm n} (hp : bs[j]? = some p) (h : Subst (bs.take j)) (h0 : 0 ≤ p.1) (h1 : p.1 ≤ 1099511627776) (hl : ∀ q, 0 < j → bs[j - 1]? = some q → q.1 < p.1) : Subst (bs.take (j + 1)) := by
  obtain ⟨hj, rfl⟩ := List.getElem?_eq_some_iff.1 hp
  have ht : bs.take (j + 1) = bs.take j ++ [bs[j]] := List.take_succ_eq_append_getElem hj
  have hlen : (bs.take j).length = j := by simp; omega
  refine ⟨fun q hq => ?_, fun i k q z hi hk hik => ?_⟩
  · rw [ht, List.mem_append] at hq
    rcases hq with hq | hq
    · exact h.1 q hq
    · simp at hq; subst hq; exact ⟨h0, h1⟩
  · rw [ht] at hi hk
    by_cases hkj : k < j
    · rw [List.getElem?_append_left (by omega)] at hi hk
      exact h.2 i k q z hi hk hik
    · rw [List.getElem?_append_right (by omega), hlen] at hk
      have hk0 : k - j = 0 := by
        by_cases e : k - j = 0
        · exact e
        · rw [List.getElem?_eq_none (by simp; omega)] at hk; cases hk
      rw [hk0] at hk
      simp at hk
      subst hk
      have hij : i < j := by omega
      rw [List.getElem?_append_left (by omega)] at hi
      rw [List.getElem?_take] at hi
      simp only [hij, if_true] at hi
      have hj1 : bs[j - 1]? = some (bs[j - 1]'(by omega)) := List.getElem?_eq_getElem (by omega)
      have hlast := hl _ (by omega) hj1
      by_cases e : i = j - 1
      · subst e; rw [hj1] at hi; cases hi; exact hlast
      · have hh := h.2 i (j - 1) q (bs[j - 1]'(by omega)) (by rw [List.getElem?_take]; simp only [hij, if_true]; exact hi) (by rw [List.getElem?_take]; simp only [show j - 1 < j by omega, if_true]; exact hj1) (by omega)
        omega

end Go.Proofs.Ytjdanfhbccpnpaa

/- The contract of term.checkBinds. -/
namespace Go.Proofs.Ytjdanfhbccpnpaa
open Go.RowKit Go.Shelf

/-- A list of binds and where it lies. -/
structure BL (n : Nat) where
  a : Option Addr
  len : Nat
  cap : Nat
  bs : List (Int × Tm n)
def okB {n : Nat} (L : BL n) : Prop := ∀ p ∈ L.bs, okT p.2 = true
/-- What checkBinds answers. -/
def BindSays {n : Nat} (Ls : List (BL n)) (e : Ending) : Prop := ∃ r : Int, e = .returned (.int .i64 r) ∧ ((¬ ∀ L ∈ Ls, okB L) → r = 2) ∧ ((∀ L ∈ Ls, okB L) → (¬ ∀ L ∈ Ls, Subst L.bs) → r = 1) ∧ ((∀ L ∈ Ls, okB L) → (∀ L ∈ Ls, Subst L.bs) → r = 0)
theorem says_two {n : Nat} {Ls : List (BL n)} (h : ¬ ∀ L ∈ Ls, okB L) : BindSays Ls (.returned (.int .i64 2)) := ⟨2, rfl, fun _ => rfl, fun k => (h k).elim, fun k => (h k).elim⟩
theorem says_one {n : Nat} {Ls : List (BL n)} (h : ∀ L ∈ Ls, okB L) (h' : ¬ ∀ L ∈ Ls, Subst L.bs) : BindSays Ls (.returned (.int .i64 1)) := ⟨1, rfl, fun k => (k h).elim, fun _ _ => rfl, fun _ k => (h' k).elim⟩
theorem says_zero {n : Nat} {Ls : List (BL n)} (h : ∀ L ∈ Ls, okB L) (h' : ∀ L ∈ Ls, Subst L.bs) : BindSays Ls (.returned (.int .i64 0)) := ⟨0, rfl, fun k => (k h).elim, fun _ k => (k h').elim, fun _ _ => rfl⟩
/-- The first j have it. -/
def Fst {α : Type} (p : α → Prop) (l : List α) (j : Nat) : Prop := ∀ i x, l[i]? = some x → i < j → p x
theorem Fst.next {α : Type} {p : α → Prop} {l : List α} {j : Nat} {x : α} (h : Fst p l j) (hx : l[j]? = some x) (hp : p x) : Fst p l (j + 1) := fun i y hy hi => by
  by_cases e : i = j
  · subst e; rw [hx] at hy; cases hy; exact hp
  · exact h i y hy (by omega)
theorem Fst.all {α : Type} {p : α → Prop} {l : List α} {j : Nat} (h : Fst p l j) (hj : l.length ≤ j) : ∀ x ∈ l, p x := fun x hx => by
  obtain ⟨i, hi⟩ := List.mem_iff_getElem?.1 hx
  exact h i x hi (by have := (List.getElem?_eq_some_iff.1 hi).1; omega)

end Go.Proofs.Ytjdanfhbccpnpaa

/- The contract of term.Apply. -/
namespace Go.Proofs.Ytjdanfhbccpnpaa
open Go.RowKit Go.Shelf

theorem says_one_ok {n : Nat} {L : BL n} {e : Ending} (h : BindSays [L] e) (h1 : okB L) (h2 : Subst L.bs) : e = .returned (.int .i64 0) := by
  obtain ⟨r, rfl, _, _, h0⟩ := h
  rw [h0 (by simpa using h1) (by simpa using h2)]
theorem says_one_no {n : Nat} {L : BL n} {e : Ending} (h : BindSays [L] e) (h1 : ¬ (okB L ∧ Subst L.bs)) : ∃ r : Int, e = .returned (.int .i64 r) ∧ (r = 1 ∨ r = 2) ∧ (okB L → r = 1) ∧ (¬ okB L → r = 2) := by
  obtain ⟨r, rfl, k2, k1, _⟩ := h
  by_cases hok : okB L
  · have hs : ¬ Subst L.bs := fun h => h1 ⟨hok, h⟩
    have hr := k1 (by simpa using hok) (by simpa using hs)
    exact ⟨r, rfl, .inl hr, fun _ => hr, fun h => (h hok).elim⟩
  · have hr := k2 (by simpa using hok)
    exact ⟨r, rfl, .inr hr, fun h => (hok h).elim, fun _ => hr⟩

/-- The term's box and the cell of the result, at the head of a call's own memory. -/
structure Head (w W : World) (x : TV) : Prop where
  below : Below w.heap.size w W
  ba : BoxT W w.heap.size x
  bz : W.heap[w.heap.size + 1]? = some (.cells #[.int .i64 0, .int .i64 0, .string ⟨#[]⟩, .slice none 0 0] 24 (0, 0))
theorem Head.lt {w W : World} {x : TV} (h : Head w W x) : w.heap.size + 1 < W.heap.size := (Array.getElem?_eq_some_iff.1 h.bz).1
theorem Head.next {w W W' : World} {x : TV} (h : Head w W x) (hb : Below W.heap.size W W') : Head w W' x :=
  ⟨h.below.trans (hb.mono h.below.size), (hb.block _ h.ba.lt).trans h.ba, (hb.block _ h.lt).trans h.bz⟩
theorem Head.new (w : World) (x : TV) : Head w ((w.alloc (.cells #[.int .i64 x.k, .int .i64 x.N, .string x.s, .slice x.a x.len x.cap] 24)).alloc (.cells #[.int .i64 0, .int .i64 0, .string ⟨#[]⟩, .slice none 0 0] 24)) x := by
  have h := World.alloc_heap_new (w.alloc (.cells #[.int .i64 x.k, .int .i64 x.N, .string x.s, .slice x.a x.len x.cap] 24)) (.cells #[.int .i64 0, .int .i64 0, .string ⟨#[]⟩, .slice none 0 0] 24)
  rw [World.size_alloc] at h
  exact ⟨((Below.refl _ w).alloc (Nat.le_refl _) _).alloc (by simp) _, (BoxT.new w x).alloc _, h⟩

end Go.Proofs.Ytjdanfhbccpnpaa

