import Derived.Test.YtcdgmjpgmiehcaaGvBs
/- Region 3 of the law: four copies and four boxes, drawn. (Written by wip/gvfour.py.) -/
namespace Go.Proofs.Ytcdgmjpgmiehcaa
open Go.RowKit Go.Shelf Go.Maps

/-- The slots that the region writes. -/
def slotV (k : Nat) : Bool := (Nat.ble 9 k && Nat.ble k 12) || (Nat.ble 16 k && Nat.ble k 23)
theorem slotV_iff (k : Nat) : slotV k = true ↔ (9 ≤ k ∧ k ≤ 12) ∨ (16 ≤ k ∧ k ≤ 23) := by simp [slotV]
def R4V (n : Nat) (cs : Nat → List Nd) (lo : Nat) (j : Nat) : (Nat → Prop) → World → Value → Prop := CopT lo n (cs j)
def Z4V (_ : Nat) : Obj := .cells #[.int .i64 0, .int .i64 0, .string ⟨#[]⟩, .slice none 0 0] 24 (0, 0)
def O4V (_ : Nat) : Value → Obj
  | .agg xs => .cells xs 24 (0, 0)
  | v => .cells #[v] 24 (0, 0)
theorem R4V_stays (n : Nat) (cs : Nat → List Nd) (lo j : Nat) : StaysT (R4V n cs lo j) := copT_stays lo n (cs j)
def vcF (l : Array Bool) (j : Nat) : Bool := decide (j < 4) && l.getD (2 * j + 1) false
def vaF (l : Array Bool) (j : Nat) : Bool := decide (j < 4) && l.getD (8 + j) false
def vsF (l : Array Bool) (j : Nat) : Bool := decide (j < 4) && l.getD (12 + j) false
section
variable {l : Array Bool} {j : Nat}
theorem vc_c (h : 2 * j + 1 < l.size) (hj : j < 4) : vcF (l.setIfInBounds (2 * j + 1) true) = upd (vcF l) j true := by
  funext i; simp only [vcF, upd, flag_set h]; by_cases e : i = j
  · subst e; simp [hj]
  · rw [if_neg e, if_neg (by omega)]
theorem va_c (h : 2 * j + 1 < l.size) (hj : j < 4) : vaF (l.setIfInBounds (2 * j + 1) true) = vaF l := by
  funext i; simp only [vaF, flag_set h]; rw [if_neg (by omega)]
theorem vs_c (h : 2 * j + 1 < l.size) (hj : j < 4) : vsF (l.setIfInBounds (2 * j + 1) true) = vsF l := by
  funext i; simp only [vsF, flag_set h]; rw [if_neg (by omega)]
theorem vc_a (h : 8 + j < l.size) (hj : j < 4) : vcF (l.setIfInBounds (8 + j) true) = vcF l := by
  funext i; simp only [vcF, flag_set h]; by_cases e : i < 4
  · rw [if_neg (by omega)]
  · simp [e]
theorem va_a (h : 8 + j < l.size) (hj : j < 4) : vaF (l.setIfInBounds (8 + j) true) = upd (vaF l) j true := by
  funext i; simp only [vaF, upd, flag_set h]; by_cases e : i = j
  · subst e; simp [hj]
  · rw [if_neg e, if_neg (by omega)]
theorem vs_a (h : 8 + j < l.size) (hj : j < 4) : vsF (l.setIfInBounds (8 + j) true) = vsF l := by
  funext i; simp only [vsF, flag_set h]; rw [if_neg (by omega)]
theorem vc_s (h : 12 + j < l.size) (hj : j < 4) : vcF (l.setIfInBounds (12 + j) true) = vcF l := by
  funext i; simp only [vcF, flag_set h]; by_cases e : i < 4
  · rw [if_neg (by omega)]
  · simp [e]
theorem va_s (h : 12 + j < l.size) (hj : j < 4) : vaF (l.setIfInBounds (12 + j) true) = vaF l := by
  funext i; simp only [vaF, flag_set h]; by_cases e : i < 4
  · rw [if_neg (by omega)]
  · simp [e]
theorem vs_s (h : 12 + j < l.size) (hj : j < 4) : vsF (l.setIfInBounds (12 + j) true) = upd (vsF l) j true := by
  funext i; simp only [vsF, upd, flag_set h]; by_cases e : i = j
  · subst e; simp [hj]
  · rw [if_neg e, if_neg (by omega)]
theorem vc_l (h : 2 * j < l.size) (_hj : j < 4) : vcF (l.setIfInBounds (2 * j) true) = vcF l := by
  funext i; simp only [vcF, flag_set h]; rw [if_neg (by omega)]
theorem va_l (h : 2 * j < l.size) (hj : j < 4) : vaF (l.setIfInBounds (2 * j) true) = vaF l := by
  funext i; simp only [vaF, flag_set h]; rw [if_neg (by omega)]
theorem vs_l (h : 2 * j < l.size) (hj : j < 4) : vsF (l.setIfInBounds (2 * j) true) = vsF l := by
  funext i; simp only [vsF, flag_set h]; rw [if_neg (by omega)]
end
theorem vboxT_frz {W : World} {B : Nat} {x : TV} (h : BoxT W B x) (o : Nat) : W.frozen? ⟨B, o, none⟩ = false := by simp [World.frozen?, show W.heap[B]? = _ from h]
theorem vboxT_cell {W : World} {B o : Nat} {arr : Array Value} {T : TypeId} (h : W.heap[B]? = some (.cells arr T (0, 0))) (v : Value) : (W.setCell ⟨B, o, none⟩ v).heap[B]? = some (.cells (arr.setIfInBounds o v) T (0, 0)) := by
  obtain ⟨hlt, hk⟩ := Array.getElem?_eq_some_iff.1 h
  show (W.heap.modify B _)[B]? = _
  rw [Array.getElem?_eq_getElem (by rw [Array.size_modify]; exact hlt), Array.getElem_modify_self, hk]
  rfl
theorem vboxT_set4 {W : World} {B : Nat} {y : TV} (h : BoxT W B y) (x : TV) : BoxT (set4 W B 0 x) B x :=
  vboxT_cell (vboxT_cell (vboxT_cell (vboxT_cell h _) _) _) _
/-- What holds at every moment. -/
def I4V (R : Nat → (Nat → Prop) → World → Value → Prop) (arg : Nat → Value) (a0 : Act) (w0 : World) (l : Array Bool) (a : Act) (w : World) : Prop :=
  ∃ (f : Nat → Value) (P : Nat → Nat), a = ⟨lay slotV a0.tmps f, a0.defers⟩ ∧ Below w0.heap.size w0 w ∧ RegT w0.heap.size R Z4V O4V (vcF l) (vaF l) (vsF l) (fun j => f (17 + 2 * j)) P w
    ∧ (∀ j, j < 4 → l.getD (2 * j) false = true → f (16 + 2 * j) = arg j) ∧ (∀ j, vaF l j = true → f (9 + j) = .pointer (some ⟨P j, 0, none⟩)) ∧ (∀ j, vsF l j = true → vcF l j = true ∧ vaF l j = true)
section
variable {R : Nat → (Nat → Prop) → World → Value → Prop} {arg : Nat → Value} {a0 : Act} {w0 w w' : World} {l : Array Bool} {f : Nat → Value} {P : Nat → Nat} {j : Nat}
theorem I4V.load (hj : j < 4) (hl : l.getD (2 * j) true = false) (hb : Below w0.heap.size w0 w) (hr : RegT w0.heap.size R Z4V O4V (vcF l) (vaF l) (vsF l) (fun j => f (17 + 2 * j)) P w)
    (ha : ∀ j, j < 4 → l.getD (2 * j) false = true → f (16 + 2 * j) = arg j) (hp : ∀ j, vaF l j = true → f (9 + j) = .pointer (some ⟨P j, 0, none⟩)) (hs : ∀ j, vsF l j = true → vcF l j = true ∧ vaF l j = true) :
    I4V R arg a0 w0 (l.setIfInBounds (2 * j) true) ⟨(lay slotV a0.tmps f).setIfInBounds (16 + 2 * j) (arg j), a0.defers⟩ w := by
  obtain ⟨hi, hf⟩ := flag_no hl
  refine ⟨upd f (16 + 2 * j) (arg j), P, by rw [lay_put _ _ _ _ _ ((slotV_iff _).2 (by omega))], hb, ?_, fun k hk h => ?_, fun k hk => ?_, fun k hk => ?_⟩
  · rw [vc_l hi hj, va_l hi hj, vs_l hi hj]
    rw [show (fun k => upd f (16 + 2 * j) (arg j) (17 + 2 * k)) = fun k => f (17 + 2 * k) from funext fun k => upd_off _ _ (by omega)]
    exact hr
  · by_cases e : k = j
    · subst e; rw [upd_at]
    · rw [upd_off _ _ (by omega)]
      rw [flag_set hi, if_neg (by omega)] at h
      exact ha k hk h
  · rw [va_l hi hj] at hk
    have h4 : k < 4 := by simp [vaF] at hk; exact hk.1
    rw [upd_off _ _ (by omega)]
    exact hp k hk
  · rw [vs_l hi hj] at hk
    rw [vc_l hi hj, va_l hi hj]
    exact hs k hk
theorem I4V.call (hR : ∀ j, StaysT (R j)) (hj : j < 4) (hl : l.getD (2 * j + 1) true = false) (hb : Below w0.heap.size w0 w) (hr : RegT w0.heap.size R Z4V O4V (vcF l) (vaF l) (vsF l) (fun j => f (17 + 2 * j)) P w)
    (ha : ∀ j, j < 4 → l.getD (2 * j) false = true → f (16 + 2 * j) = arg j) (hp : ∀ j, vaF l j = true → f (9 + j) = .pointer (some ⟨P j, 0, none⟩)) (hs : ∀ j, vsF l j = true → vcF l j = true ∧ vaF l j = true) {v : Value} (hb' : Below w.heap.size w w') (hv : R j (fun b => b < w.heap.size) w' v) :
    I4V R arg a0 w0 (l.setIfInBounds (2 * j + 1) true) ⟨(lay slotV a0.tmps f).setIfInBounds (17 + 2 * j) v, a0.defers⟩ w' := by
  obtain ⟨hi, hf⟩ := flag_no hl
  have hst : vsF l j = false := by
    cases h : vsF l j with
    | false => rfl
    | true =>
      have := (hs j h).1
      simp only [vcF, hf, Bool.and_false] at this
      cases this
  refine ⟨upd f (17 + 2 * j) v, P, by rw [lay_put _ _ _ _ _ ((slotV_iff _).2 (by omega))], hb.trans (hb'.mono hb.size), ?_, fun k hk h => ?_, fun k hk => ?_, fun k hk => ?_⟩
  · rw [vc_c hi hj, va_c hi hj, vs_c hi hj]
    rw [show (fun k => upd f (17 + 2 * j) v (17 + 2 * k)) = upd (fun k => f (17 + 2 * k)) j v from funext fun k => by
      by_cases e : k = j
      · subst e; rw [upd_at, upd_at]
      · rw [upd_off _ _ (by omega), upd_off _ _ e]]
    exact hr.call hR hst hb' hv
  · rw [upd_off _ _ (by omega)]
    rw [flag_set hi, if_neg (by omega)] at h
    exact ha k hk h
  · rw [va_c hi hj] at hk
    have h4 : k < 4 := by simp [vaF] at hk; exact hk.1
    rw [upd_off _ _ (by omega)]
    exact hp k hk
  · rw [vs_c hi hj] at hk
    have h := hs k hk
    refine ⟨?_, by rw [va_c hi hj]; exact h.2⟩
    rw [vc_c hi hj]
    by_cases e : k = j
    · subst e; rw [upd_at]
    · rw [upd_off _ _ e]; exact h.1
theorem I4V.alloc (hR : ∀ j, StaysT (R j)) (hj : j < 4) (hl : l.getD (8 + j) true = false) (hb : Below w0.heap.size w0 w) (hr : RegT w0.heap.size R Z4V O4V (vcF l) (vaF l) (vsF l) (fun j => f (17 + 2 * j)) P w)
    (ha : ∀ j, j < 4 → l.getD (2 * j) false = true → f (16 + 2 * j) = arg j) (hp : ∀ j, vaF l j = true → f (9 + j) = .pointer (some ⟨P j, 0, none⟩)) (hs : ∀ j, vsF l j = true → vcF l j = true ∧ vaF l j = true) (hb' : Below w.heap.size w w') (hz : w.heap.size < w'.heap.size) (hn : w'.heap[w.heap.size]? = some (Z4V j)) :
    I4V R arg a0 w0 (l.setIfInBounds (8 + j) true) ⟨(lay slotV a0.tmps f).setIfInBounds (9 + j) (.pointer (some ⟨w.heap.size, 0, none⟩)), a0.defers⟩ w' := by
  obtain ⟨hi, hf⟩ := flag_no hl
  have hal : vaF l j = false := by simp only [vaF, hf, Bool.and_false]
  have hst : vsF l j = false := by
    cases h : vsF l j with
    | false => rfl
    | true =>
      have := (hs j h).2
      rw [hal] at this
      cases this
  refine ⟨upd f (9 + j) (.pointer (some ⟨w.heap.size, 0, none⟩)), upd P j w.heap.size, by rw [lay_put _ _ _ _ _ ((slotV_iff _).2 (by omega))], hb.trans (hb'.mono hb.size), ?_, fun k hk h => ?_, fun k hk => ?_, fun k hk => ?_⟩
  · rw [vc_a hi hj, va_a hi hj, vs_a hi hj]
    rw [show (fun k => upd f (9 + j) (.pointer (some ⟨w.heap.size, 0, none⟩)) (17 + 2 * k)) = fun k => f (17 + 2 * k) from funext fun k => upd_off _ _ (by omega)]
    exact hr.alloc hR hst hal hb.size hb' hz hn
  · rw [upd_off _ _ (by omega)]
    rw [flag_set hi, if_neg (by omega)] at h
    exact ha k hk h
  · rw [va_a hi hj] at hk
    by_cases e : k = j
    · subst e; rw [upd_at, upd_at]
    · rw [upd_off _ _ e] at hk ⊢
      rw [upd_off _ _ (by omega)]
      exact hp k hk
  · rw [vs_a hi hj] at hk
    have h := hs k hk
    refine ⟨by rw [vc_a hi hj]; exact h.1, ?_⟩
    rw [va_a hi hj]
    by_cases e : k = j
    · subst e; rw [upd_at]
    · rw [upd_off _ _ e]; exact h.2
theorem I4V.store (hR : ∀ j, StaysT (R j)) (hj : j < 4) (hl : l.getD (12 + j) true = false) (hb : Below w0.heap.size w0 w) (hr : RegT w0.heap.size R Z4V O4V (vcF l) (vaF l) (vsF l) (fun j => f (17 + 2 * j)) P w)
    (ha : ∀ j, j < 4 → l.getD (2 * j) false = true → f (16 + 2 * j) = arg j) (hp : ∀ j, vaF l j = true → f (9 + j) = .pointer (some ⟨P j, 0, none⟩)) (hs : ∀ j, vsF l j = true → vcF l j = true ∧ vaF l j = true) (hc : vcF l j = true) (hal : vaF l j = true)
    (hw : ∀ b, b ≠ P j → w'.heap[b]? = w.heap[b]?) (hz : w'.heap.size = w.heap.size) (hn : w'.heap[P j]? = some (O4V j (f (17 + 2 * j)))) (hos : w'.os = w.os) (htp : w'.tape = w.tape) (hou : w'.output = w.output) :
    I4V R arg a0 w0 (l.setIfInBounds (12 + j) true) ⟨lay slotV a0.tmps f, a0.defers⟩ w' := by
  obtain ⟨hi, hf⟩ := flag_no hl
  have hlo := (hr.box j hal).1
  refine ⟨f, P, rfl, ⟨hos.trans hb.os, htp.trans hb.tape, hou.trans hb.output, by rw [hz]; exact hb.size, fun k hk => (hw k (by omega)).trans (hb.block k hk)⟩, ?_, fun k hk h => ?_, fun k hk => ?_, fun k hk => ?_⟩
  · rw [vc_s hi hj, va_s hi hj, vs_s hi hj]
    exact hr.store hR hal hw hz hn
  · rw [flag_set hi, if_neg (by omega)] at h
    exact ha k hk h
  · rw [va_s hi hj] at hk
    exact hp k hk
  · rw [vc_s hi hj, va_s hi hj]
    rw [vs_s hi hj] at hk
    by_cases e : k = j
    · subst e; exact ⟨hc, hal⟩
    · rw [upd_off _ _ e] at hk
      exact hs k hk
end

/-- What the slots and the boxes hold behind it. -/
structure FourV {n : Nat} (t : Nat → Tm n) (w0 W : World) (f : Nat → Value) (P : Nat → Nat) (x : Nat → Tm n) : Prop where
  below : Below w0.heap.size w0 W
  ptr : ∀ j, j < 4 → f (9 + j) = .pointer (some ⟨P j, 0, none⟩)
  bx : ∀ j, j < 4 → BoxT W (P j) (x j).tv
  own : ∀ j, j < 4 → Owned w0.heap.size W (x j)
  cd : ∀ j, j < 4 → code (x j) = code (t j)
set_option maxRecDepth 100000 in
set_option maxHeartbeats 2000000 in
theorem wp_fourV {n : Nat} (t : Nat → Tm n) (A : Nat → Nat) (a0 : Act) (w : World) (Q : Exit → Act → World → Prop) (hsz : a0.tmps.size = 52)
    (h4 : a0.tmps[4]? = some (.pointer (some ⟨A 0, 0, none⟩))) (h5 : a0.tmps[5]? = some (.pointer (some ⟨A 1, 0, none⟩))) (h6 : a0.tmps[6]? = some (.pointer (some ⟨A 2, 0, none⟩))) (h7 : a0.tmps[7]? = some (.pointer (some ⟨A 3, 0, none⟩)))
    (hA : ∀ j, j < 4 → BoxT w (A j) (t j).tv) (hT : ∀ j, j < 4 → IsT w.heap.size w (t j)) (wd : ∀ j, j < 4 → ∀ x ∈ code (t j), x.2.2.2 ≤ 4194304)
    (hQ : ∀ (f : Nat → Value) (W : World) (P : Nat → Nat) (x : Nat → Tm n), FourV t w W f P x → Q .normal ⟨lay slotV a0.tmps f, a0.defers⟩ W) :
    (Code.region 3 #[{ dst := some 16, op := Op.load 24 (Operand.tmp 4), type := 24, pos := "memory.go:394", after := #[], guard := none }, { dst := some 17, op := Op.call { callee := Callee.value (Operand.func 5), args := #[Operand.tmp 16], argTypes := #[24] }, type := 24, pos := "memory.go:394", after := #[{ on := 0, ground := Ground.data }], guard := none }, { dst := some 18, op := Op.load 24 (Operand.tmp 5), type := 24, pos := "memory.go:394", after := #[], guard := none }, { dst := some 19, op := Op.call { callee := Callee.value (Operand.func 5), args := #[Operand.tmp 18], argTypes := #[24] }, type := 24, pos := "memory.go:394", after := #[{ on := 2, ground := Ground.data }, { on := 1, ground := Ground.chain }], guard := none }, { dst := some 20, op := Op.load 24 (Operand.tmp 6), type := 24, pos := "memory.go:394", after := #[], guard := none }, { dst := some 21, op := Op.call { callee := Callee.value (Operand.func 5), args := #[Operand.tmp 20], argTypes := #[24] }, type := 24, pos := "memory.go:394", after := #[{ on := 4, ground := Ground.data }, { on := 3, ground := Ground.chain }], guard := none }, { dst := some 22, op := Op.load 24 (Operand.tmp 7), type := 24, pos := "memory.go:394", after := #[], guard := none }, { dst := some 23, op := Op.call { callee := Callee.value (Operand.func 5), args := #[Operand.tmp 22], argTypes := #[24] }, type := 24, pos := "memory.go:394", after := #[{ on := 6, ground := Ground.data }, { on := 5, ground := Ground.chain }], guard := none }, { dst := some 9, op := Op.alloc 24, type := 0, pos := "memory.go:394", after := #[], guard := none }, { dst := some 10, op := Op.alloc 24, type := 0, pos := "memory.go:394", after := #[], guard := none }, { dst := some 11, op := Op.alloc 24, type := 0, pos := "memory.go:394", after := #[], guard := none }, { dst := some 12, op := Op.alloc 24, type := 0, pos := "memory.go:394", after := #[], guard := none }, { dst := none, op := Op.store 24 (Operand.tmp 9) (Operand.tmp 17), type := 0, pos := "memory.go:394", after := #[{ on := 8, ground := Ground.data }, { on := 1, ground := Ground.data }, { on := 7, ground := Ground.chain }, { on := 0, ground := Ground.phase }, { on := 1, ground := Ground.phase }, { on := 2, ground := Ground.textOnly Departure.lateStores }, { on := 3, ground := Ground.textOnly Departure.lateStoresUnsure }, { on := 4, ground := Ground.textOnly Departure.lateStores }, { on := 5, ground := Ground.textOnly Departure.lateStoresUnsure }, { on := 6, ground := Ground.textOnly Departure.lateStores }, { on := 7, ground := Ground.textOnly Departure.lateStoresUnsure }, { on := 8, ground := Ground.phase }, { on := 9, ground := Ground.phase }, { on := 10, ground := Ground.phase }, { on := 11, ground := Ground.phase }], guard := none }, { dst := none, op := Op.store 24 (Operand.tmp 10) (Operand.tmp 19), type := 0, pos := "memory.go:394", after := #[{ on := 9, ground := Ground.data }, { on := 3, ground := Ground.data }, { on := 12, ground := Ground.chain }, { on := 0, ground := Ground.phase }, { on := 1, ground := Ground.phase }, { on := 2, ground := Ground.phase }, { on := 3, ground := Ground.phase }, { on := 4, ground := Ground.textOnly Departure.lateStores }, { on := 5, ground := Ground.textOnly Departure.lateStoresUnsure }, { on := 6, ground := Ground.textOnly Departure.lateStores }, { on := 7, ground := Ground.textOnly Departure.lateStoresUnsure }, { on := 8, ground := Ground.phase }, { on := 9, ground := Ground.phase }, { on := 10, ground := Ground.phase }, { on := 11, ground := Ground.phase }, { on := 12, ground := Ground.phase }], guard := none }, { dst := none, op := Op.store 24 (Operand.tmp 11) (Operand.tmp 21), type := 0, pos := "memory.go:394", after := #[{ on := 10, ground := Ground.data }, { on := 5, ground := Ground.data }, { on := 13, ground := Ground.chain }, { on := 0, ground := Ground.phase }, { on := 1, ground := Ground.phase }, { on := 2, ground := Ground.phase }, { on := 3, ground := Ground.phase }, { on := 4, ground := Ground.phase }, { on := 5, ground := Ground.phase }, { on := 6, ground := Ground.textOnly Departure.lateStores }, { on := 7, ground := Ground.textOnly Departure.lateStoresUnsure }, { on := 8, ground := Ground.phase }, { on := 9, ground := Ground.phase }, { on := 10, ground := Ground.phase }, { on := 11, ground := Ground.phase }, { on := 12, ground := Ground.phase }, { on := 13, ground := Ground.phase }], guard := none }, { dst := none, op := Op.store 24 (Operand.tmp 12) (Operand.tmp 23), type := 0, pos := "memory.go:394", after := #[{ on := 11, ground := Ground.data }, { on := 7, ground := Ground.data }, { on := 14, ground := Ground.chain }, { on := 0, ground := Ground.phase }, { on := 1, ground := Ground.phase }, { on := 2, ground := Ground.phase }, { on := 3, ground := Ground.phase }, { on := 4, ground := Ground.phase }, { on := 5, ground := Ground.phase }, { on := 6, ground := Ground.phase }, { on := 7, ground := Ground.phase }, { on := 8, ground := Ground.phase }, { on := 9, ground := Ground.phase }, { on := 10, ground := Ground.phase }, { on := 11, ground := Ground.phase }, { on := 12, ground := Ground.phase }, { on := 13, ground := Ground.phase }, { on := 14, ground := Ground.phase }], guard := none }] true).wp Try.prog Q a0 w := by
  have hR := R4V_stays n (fun j => code (t j)) w.heap.size
  refine wp_region_inv (by kernel_rfl) (I4V (R4V n (fun j => code (t j)) w.heap.size) (fun j => (t j).tv.val) a0 w) (rank_of (by kernel_rfl)) ?_ ?_ ?_
  · intro l ac v i o hls hI ho hl haft K hK
    obtain ⟨f, P, rfl, hb, hr, ha, hp, hs⟩ := hI
    have e4 : (lay slotV a0.tmps f)[4]? = some (.pointer (some ⟨A 0, 0, none⟩)) := (lay_off _ _ _ _ rfl).trans h4
    have e5 : (lay slotV a0.tmps f)[5]? = some (.pointer (some ⟨A 1, 0, none⟩)) := (lay_off _ _ _ _ rfl).trans h5
    have e6 : (lay slotV a0.tmps f)[6]? = some (.pointer (some ⟨A 2, 0, none⟩)) := (lay_off _ _ _ _ rfl).trans h6
    have e7 : (lay slotV a0.tmps f)[7]? = some (.pointer (some ⟨A 3, 0, none⟩)) := (lay_off _ _ _ _ rfl).trans h7
    have es : ∀ k, slotV k = true → (lay slotV a0.tmps f)[k]? = some (f k) := fun k hk => lay_slot _ _ _ _ hk (by have := (slotV_iff k).1 hk; omega)
    rcases i with _|_|_|_|_|_|_|_|_|_|_|_|_|_|_|_|i
    · obtain rfl := Option.some.inj ho
      clear ho
      have HR := hide hr
      have HA := hide ha
      have HP := hide hp
      have HS := hide hs
      have HK := hide hK
      have HF := hide haft
      clear hr ha hp hs hK haft
      have hx := boxT_at (hA 0 (by decide)) hb
      have x0 := hx.c0
      have x1 := hx.c1
      have x2 := hx.c2
      have x3 := hx.c3
      go_simp
      exact (unhide HK) _ _ (I4V.load (j := 0) (by decide) hl hb (unhide HR) (unhide HA) (unhide HP) (unhide HS))
    · obtain rfl := Option.some.inj ho
      clear ho
      have HR := hide hr
      have HA := hide ha
      have HP := hide hp
      have HS := hide hs
      have HK := hide hK
      have HF := hide haft
      clear hr ha hp hs hK haft
      have e1 : (lay slotV a0.tmps f)[16]? = some ((t 0).tv.val) := by rw [es 16 rfl]; exact congrArg some ((unhide HA) 0 (by decide) ((unhide HF) { on := 0, ground := .data } (by simp) rfl))
      have hc := own_any n (t 0) v (((hT 0 (by decide)).below hb).mono hb.size) (wd 0 (by decide))
      clear es e4 e5 e6 e7
      go_simp
      refine hc.mono ?_
      clear hc
      rintro e V ⟨tt, rfl, hb', ho, hcd⟩
      exact (unhide HK) _ _ (I4V.call (j := 0) hR (by decide) hl hb (unhide HR) (unhide HA) (unhide HP) (unhide HS) hb' (copT_new ho hb.size hcd))
    · obtain rfl := Option.some.inj ho
      clear ho
      have HR := hide hr
      have HA := hide ha
      have HP := hide hp
      have HS := hide hs
      have HK := hide hK
      have HF := hide haft
      clear hr ha hp hs hK haft
      have hx := boxT_at (hA 1 (by decide)) hb
      have x0 := hx.c0
      have x1 := hx.c1
      have x2 := hx.c2
      have x3 := hx.c3
      go_simp
      exact (unhide HK) _ _ (I4V.load (j := 1) (by decide) hl hb (unhide HR) (unhide HA) (unhide HP) (unhide HS))
    · obtain rfl := Option.some.inj ho
      clear ho
      have HR := hide hr
      have HA := hide ha
      have HP := hide hp
      have HS := hide hs
      have HK := hide hK
      have HF := hide haft
      clear hr ha hp hs hK haft
      have e1 : (lay slotV a0.tmps f)[18]? = some ((t 1).tv.val) := by rw [es 18 rfl]; exact congrArg some ((unhide HA) 1 (by decide) ((unhide HF) { on := 2, ground := .data } (by simp) rfl))
      have hc := own_any n (t 1) v (((hT 1 (by decide)).below hb).mono hb.size) (wd 1 (by decide))
      clear es e4 e5 e6 e7
      go_simp
      refine hc.mono ?_
      clear hc
      rintro e V ⟨tt, rfl, hb', ho, hcd⟩
      exact (unhide HK) _ _ (I4V.call (j := 1) hR (by decide) hl hb (unhide HR) (unhide HA) (unhide HP) (unhide HS) hb' (copT_new ho hb.size hcd))
    · obtain rfl := Option.some.inj ho
      clear ho
      have HR := hide hr
      have HA := hide ha
      have HP := hide hp
      have HS := hide hs
      have HK := hide hK
      have HF := hide haft
      clear hr ha hp hs hK haft
      have hx := boxT_at (hA 2 (by decide)) hb
      have x0 := hx.c0
      have x1 := hx.c1
      have x2 := hx.c2
      have x3 := hx.c3
      go_simp
      exact (unhide HK) _ _ (I4V.load (j := 2) (by decide) hl hb (unhide HR) (unhide HA) (unhide HP) (unhide HS))
    · obtain rfl := Option.some.inj ho
      clear ho
      have HR := hide hr
      have HA := hide ha
      have HP := hide hp
      have HS := hide hs
      have HK := hide hK
      have HF := hide haft
      clear hr ha hp hs hK haft
      have e1 : (lay slotV a0.tmps f)[20]? = some ((t 2).tv.val) := by rw [es 20 rfl]; exact congrArg some ((unhide HA) 2 (by decide) ((unhide HF) { on := 4, ground := .data } (by simp) rfl))
      have hc := own_any n (t 2) v (((hT 2 (by decide)).below hb).mono hb.size) (wd 2 (by decide))
      clear es e4 e5 e6 e7
      go_simp
      refine hc.mono ?_
      clear hc
      rintro e V ⟨tt, rfl, hb', ho, hcd⟩
      exact (unhide HK) _ _ (I4V.call (j := 2) hR (by decide) hl hb (unhide HR) (unhide HA) (unhide HP) (unhide HS) hb' (copT_new ho hb.size hcd))
    · obtain rfl := Option.some.inj ho
      clear ho
      have HR := hide hr
      have HA := hide ha
      have HP := hide hp
      have HS := hide hs
      have HK := hide hK
      have HF := hide haft
      clear hr ha hp hs hK haft
      have hx := boxT_at (hA 3 (by decide)) hb
      have x0 := hx.c0
      have x1 := hx.c1
      have x2 := hx.c2
      have x3 := hx.c3
      go_simp
      exact (unhide HK) _ _ (I4V.load (j := 3) (by decide) hl hb (unhide HR) (unhide HA) (unhide HP) (unhide HS))
    · obtain rfl := Option.some.inj ho
      clear ho
      have HR := hide hr
      have HA := hide ha
      have HP := hide hp
      have HS := hide hs
      have HK := hide hK
      have HF := hide haft
      clear hr ha hp hs hK haft
      have e1 : (lay slotV a0.tmps f)[22]? = some ((t 3).tv.val) := by rw [es 22 rfl]; exact congrArg some ((unhide HA) 3 (by decide) ((unhide HF) { on := 6, ground := .data } (by simp) rfl))
      have hc := own_any n (t 3) v (((hT 3 (by decide)).below hb).mono hb.size) (wd 3 (by decide))
      clear es e4 e5 e6 e7
      go_simp
      refine hc.mono ?_
      clear hc
      rintro e V ⟨tt, rfl, hb', ho, hcd⟩
      exact (unhide HK) _ _ (I4V.call (j := 3) hR (by decide) hl hb (unhide HR) (unhide HA) (unhide HP) (unhide HS) hb' (copT_new ho hb.size hcd))
    · obtain rfl := Option.some.inj ho
      clear ho
      have HR := hide hr
      have HA := hide ha
      have HP := hide hp
      have HS := hide hs
      have HK := hide hK
      have HF := hide haft
      clear hr ha hp hs hK haft
      go_simp
      exact (unhide HK) _ _ (I4V.alloc (j := 0) hR (by decide) hl hb (unhide HR) (unhide HA) (unhide HP) (unhide HS) ((Below.refl _ v).alloc (Nat.le_refl _) _) (by simp) (World.alloc_heap_new v _))
    · obtain rfl := Option.some.inj ho
      clear ho
      have HR := hide hr
      have HA := hide ha
      have HP := hide hp
      have HS := hide hs
      have HK := hide hK
      have HF := hide haft
      clear hr ha hp hs hK haft
      go_simp
      exact (unhide HK) _ _ (I4V.alloc (j := 1) hR (by decide) hl hb (unhide HR) (unhide HA) (unhide HP) (unhide HS) ((Below.refl _ v).alloc (Nat.le_refl _) _) (by simp) (World.alloc_heap_new v _))
    · obtain rfl := Option.some.inj ho
      clear ho
      have HR := hide hr
      have HA := hide ha
      have HP := hide hp
      have HS := hide hs
      have HK := hide hK
      have HF := hide haft
      clear hr ha hp hs hK haft
      go_simp
      exact (unhide HK) _ _ (I4V.alloc (j := 2) hR (by decide) hl hb (unhide HR) (unhide HA) (unhide HP) (unhide HS) ((Below.refl _ v).alloc (Nat.le_refl _) _) (by simp) (World.alloc_heap_new v _))
    · obtain rfl := Option.some.inj ho
      clear ho
      have HR := hide hr
      have HA := hide ha
      have HP := hide hp
      have HS := hide hs
      have HK := hide hK
      have HF := hide haft
      clear hr ha hp hs hK haft
      go_simp
      exact (unhide HK) _ _ (I4V.alloc (j := 3) hR (by decide) hl hb (unhide HR) (unhide HA) (unhide HP) (unhide HS) ((Below.refl _ v).alloc (Nat.le_refl _) _) (by simp) (World.alloc_heap_new v _))
    · obtain rfl := Option.some.inj ho
      clear ho
      have HR := hide hr
      have HA := hide ha
      have HP := hide hp
      have HS := hide hs
      have HK := hide hK
      have HF := hide haft
      clear hr ha hp hs hK haft
      have hc : vcF l 0 = true := by simp only [vcF, Bool.and_eq_true]; exact ⟨rfl, (unhide HF) { on := 1, ground := .data } (by simp) rfl⟩
      have hal : vaF l 0 = true := by simp only [vaF, Bool.and_eq_true]; exact ⟨rfl, (unhide HF) { on := 8, ground := .data } (by simp) rfl⟩
      have hst : vsF l 0 = false := by simp only [vsF, show l.getD (12 + 0) false = false from (flag_no hl).2, Bool.and_false]
      have hbx := ((unhide HR).box 0 hal).2.2
      rw [if_neg (by simp [hst])] at hbx
      have ep : (lay slotV a0.tmps f)[9]? = some (.pointer (some ⟨P 0, 0, none⟩)) := by rw [es 9 rfl]; exact congrArg some ((unhide HP) 0 hal)
      obtain ⟨x, ex, -, -, -⟩ : CopT w.heap.size n (code (t 0)) _ v (f 17) := (unhide HR).res 0 hc
      have ev : (lay slotV a0.tmps f)[17]? = some (.agg #[.int .i64 x.tv.k, .int .i64 x.tv.N, .string x.tv.s, .slice x.tv.a x.tv.len x.tv.cap]) := by rw [es 17 rfl, ex]; rfl
      have hz : BoxT v (P 0) noTerm := hbx
      have f0 := vboxT_frz hz 0
      have f1 := vboxT_frz hz 1
      have f2 := vboxT_frz hz 2
      have f3 := vboxT_frz hz 3
      have z0 := hz.c0
      have z1 := hz.c1
      have z2 := hz.c2
      have z3 := hz.c3
      have hbox := vboxT_set4 hz x.tv
      have HB := hide hbx
      have HE := hide ex
      clear hbx hz ex es e4 e5 e6 e7 hst
      go_simp
      refine (unhide HK) _ _ (I4V.store (j := 0) (w' := set4 v (P 0) 0 x.tv) hR (by decide) hl hb (unhide HR) (unhide HA) (unhide HP) (unhide HS) hc hal (fun b hb => set4_other _ _ _ _ hb) (set4_size _ _ _ _) ?_ rfl rfl rfl)
      rw [show 17 + 2 * 0 = 17 from rfl, unhide HE]
      exact hbox
    · obtain rfl := Option.some.inj ho
      clear ho
      have HR := hide hr
      have HA := hide ha
      have HP := hide hp
      have HS := hide hs
      have HK := hide hK
      have HF := hide haft
      clear hr ha hp hs hK haft
      have hc : vcF l 1 = true := by simp only [vcF, Bool.and_eq_true]; exact ⟨rfl, (unhide HF) { on := 3, ground := .data } (by simp) rfl⟩
      have hal : vaF l 1 = true := by simp only [vaF, Bool.and_eq_true]; exact ⟨rfl, (unhide HF) { on := 9, ground := .data } (by simp) rfl⟩
      have hst : vsF l 1 = false := by simp only [vsF, show l.getD (12 + 1) false = false from (flag_no hl).2, Bool.and_false]
      have hbx := ((unhide HR).box 1 hal).2.2
      rw [if_neg (by simp [hst])] at hbx
      have ep : (lay slotV a0.tmps f)[10]? = some (.pointer (some ⟨P 1, 0, none⟩)) := by rw [es 10 rfl]; exact congrArg some ((unhide HP) 1 hal)
      obtain ⟨x, ex, -, -, -⟩ : CopT w.heap.size n (code (t 1)) _ v (f 19) := (unhide HR).res 1 hc
      have ev : (lay slotV a0.tmps f)[19]? = some (.agg #[.int .i64 x.tv.k, .int .i64 x.tv.N, .string x.tv.s, .slice x.tv.a x.tv.len x.tv.cap]) := by rw [es 19 rfl, ex]; rfl
      have hz : BoxT v (P 1) noTerm := hbx
      have f0 := vboxT_frz hz 0
      have f1 := vboxT_frz hz 1
      have f2 := vboxT_frz hz 2
      have f3 := vboxT_frz hz 3
      have z0 := hz.c0
      have z1 := hz.c1
      have z2 := hz.c2
      have z3 := hz.c3
      have hbox := vboxT_set4 hz x.tv
      have HB := hide hbx
      have HE := hide ex
      clear hbx hz ex es e4 e5 e6 e7 hst
      go_simp
      refine (unhide HK) _ _ (I4V.store (j := 1) (w' := set4 v (P 1) 0 x.tv) hR (by decide) hl hb (unhide HR) (unhide HA) (unhide HP) (unhide HS) hc hal (fun b hb => set4_other _ _ _ _ hb) (set4_size _ _ _ _) ?_ rfl rfl rfl)
      rw [show 17 + 2 * 1 = 19 from rfl, unhide HE]
      exact hbox
    · obtain rfl := Option.some.inj ho
      clear ho
      have HR := hide hr
      have HA := hide ha
      have HP := hide hp
      have HS := hide hs
      have HK := hide hK
      have HF := hide haft
      clear hr ha hp hs hK haft
      have hc : vcF l 2 = true := by simp only [vcF, Bool.and_eq_true]; exact ⟨rfl, (unhide HF) { on := 5, ground := .data } (by simp) rfl⟩
      have hal : vaF l 2 = true := by simp only [vaF, Bool.and_eq_true]; exact ⟨rfl, (unhide HF) { on := 10, ground := .data } (by simp) rfl⟩
      have hst : vsF l 2 = false := by simp only [vsF, show l.getD (12 + 2) false = false from (flag_no hl).2, Bool.and_false]
      have hbx := ((unhide HR).box 2 hal).2.2
      rw [if_neg (by simp [hst])] at hbx
      have ep : (lay slotV a0.tmps f)[11]? = some (.pointer (some ⟨P 2, 0, none⟩)) := by rw [es 11 rfl]; exact congrArg some ((unhide HP) 2 hal)
      obtain ⟨x, ex, -, -, -⟩ : CopT w.heap.size n (code (t 2)) _ v (f 21) := (unhide HR).res 2 hc
      have ev : (lay slotV a0.tmps f)[21]? = some (.agg #[.int .i64 x.tv.k, .int .i64 x.tv.N, .string x.tv.s, .slice x.tv.a x.tv.len x.tv.cap]) := by rw [es 21 rfl, ex]; rfl
      have hz : BoxT v (P 2) noTerm := hbx
      have f0 := vboxT_frz hz 0
      have f1 := vboxT_frz hz 1
      have f2 := vboxT_frz hz 2
      have f3 := vboxT_frz hz 3
      have z0 := hz.c0
      have z1 := hz.c1
      have z2 := hz.c2
      have z3 := hz.c3
      have hbox := vboxT_set4 hz x.tv
      have HB := hide hbx
      have HE := hide ex
      clear hbx hz ex es e4 e5 e6 e7 hst
      go_simp
      refine (unhide HK) _ _ (I4V.store (j := 2) (w' := set4 v (P 2) 0 x.tv) hR (by decide) hl hb (unhide HR) (unhide HA) (unhide HP) (unhide HS) hc hal (fun b hb => set4_other _ _ _ _ hb) (set4_size _ _ _ _) ?_ rfl rfl rfl)
      rw [show 17 + 2 * 2 = 21 from rfl, unhide HE]
      exact hbox
    · obtain rfl := Option.some.inj ho
      clear ho
      have HR := hide hr
      have HA := hide ha
      have HP := hide hp
      have HS := hide hs
      have HK := hide hK
      have HF := hide haft
      clear hr ha hp hs hK haft
      have hc : vcF l 3 = true := by simp only [vcF, Bool.and_eq_true]; exact ⟨rfl, (unhide HF) { on := 7, ground := .data } (by simp) rfl⟩
      have hal : vaF l 3 = true := by simp only [vaF, Bool.and_eq_true]; exact ⟨rfl, (unhide HF) { on := 11, ground := .data } (by simp) rfl⟩
      have hst : vsF l 3 = false := by simp only [vsF, show l.getD (12 + 3) false = false from (flag_no hl).2, Bool.and_false]
      have hbx := ((unhide HR).box 3 hal).2.2
      rw [if_neg (by simp [hst])] at hbx
      have ep : (lay slotV a0.tmps f)[12]? = some (.pointer (some ⟨P 3, 0, none⟩)) := by rw [es 12 rfl]; exact congrArg some ((unhide HP) 3 hal)
      obtain ⟨x, ex, -, -, -⟩ : CopT w.heap.size n (code (t 3)) _ v (f 23) := (unhide HR).res 3 hc
      have ev : (lay slotV a0.tmps f)[23]? = some (.agg #[.int .i64 x.tv.k, .int .i64 x.tv.N, .string x.tv.s, .slice x.tv.a x.tv.len x.tv.cap]) := by rw [es 23 rfl, ex]; rfl
      have hz : BoxT v (P 3) noTerm := hbx
      have f0 := vboxT_frz hz 0
      have f1 := vboxT_frz hz 1
      have f2 := vboxT_frz hz 2
      have f3 := vboxT_frz hz 3
      have z0 := hz.c0
      have z1 := hz.c1
      have z2 := hz.c2
      have z3 := hz.c3
      have hbox := vboxT_set4 hz x.tv
      have HB := hide hbx
      have HE := hide ex
      clear hbx hz ex es e4 e5 e6 e7 hst
      go_simp
      refine (unhide HK) _ _ (I4V.store (j := 3) (w' := set4 v (P 3) 0 x.tv) hR (by decide) hl hb (unhide HR) (unhide HA) (unhide HP) (unhide HS) hc hal (fun b hb => set4_other _ _ _ _ hb) (set4_size _ _ _ _) ?_ rfl rfl rfl)
      rw [show 17 + 2 * 3 = 23 from rfl, unhide HE]
      exact hbox
    · cases ho
  · intro l ac v hI hall
    obtain ⟨f, P, rfl, hb, hr, ha, hp, hs⟩ := hI
    have hc : ∀ j, j < 4 → vcF l j = true := fun j hj => by simp only [vcF, Bool.and_eq_true]; exact ⟨by simpa using hj, hall _ (by show 2 * j + 1 < 16; omega)⟩
    have hal : ∀ j, j < 4 → vaF l j = true := fun j hj => by simp only [vaF, Bool.and_eq_true]; exact ⟨by simpa using hj, hall _ (by show 8 + j < 16; omega)⟩
    have hst : ∀ j, j < 4 → vsF l j = true := fun j hj => by simp only [vsF, Bool.and_eq_true]; exact ⟨by simpa using hj, hall _ (by show 12 + j < 16; omega)⟩
    have hx : ∀ j : Nat, ∃ x : Tm n, j < 4 → f (17 + 2 * j) = x.tv.val ∧ Owned w.heap.size v x ∧ code x = code (t j) := fun j => by
      by_cases hj : j < 4
      · obtain ⟨x, ex, ox, _, cx⟩ : CopT w.heap.size n (code (t j)) _ v (f (17 + 2 * j)) := hr.res j (hc j hj)
        exact ⟨x, fun _ => ⟨ex, ox, cx⟩⟩
      · exact ⟨t 0, fun h => absurd h hj⟩
    obtain ⟨x, hx⟩ := Classical.axiomOfChoice hx
    exact hQ f v P x ⟨hb, fun j hj => hp j (hal j hj), fun j hj => by
      have h := (hr.box j (hal j hj)).2.2
      rw [if_pos (hst j hj)] at h
      rw [(hx j hj).1] at h
      exact h, fun j hj => (hx j hj).2.1, fun j hj => (hx j hj).2.2⟩
  · refine ⟨fun k => a0.tmps.getD k undef, fun _ => 0, by rw [lay_self], (Below.refl _ w).drew, ⟨fun j hj => ?_, fun j hj => ?_, fun i j hi => ?_⟩, fun j _ hj => ?_, fun j hj => ?_, fun j hj => ?_⟩
    · rw [vcF, rep_no, Bool.and_false] at hj; cases hj
    · rw [vaF, rep_no, Bool.and_false] at hj; cases hj
    · rw [vaF, rep_no, Bool.and_false] at hi; cases hi
    · rw [rep_no] at hj; cases hj
    · rw [vaF, rep_no, Bool.and_false] at hj; cases hj
    · rw [vsF, rep_no, Bool.and_false] at hj; cases hj
set_option maxRecDepth 100000 in
set_option maxHeartbeats 2000000 in
theorem wp_fourV' {n : Nat} {t : Nat → Tm n} {A : Nat → Nat} {v0 v1 v2 v3 v8 v9 v10 v11 v12 v13 v14 v15 v16 v17 v18 v19 v20 v21 v22 v23 v24 v25 v26 v27 v28 v29 v30 v31 v32 v33 v34 v35 v36 v37 v38 v39 v40 v41 v42 v43 v44 v45 v46 v47 v48 v49 v50 v51 : Value} {d : List Deferred} {w : World} {Q : Exit → Act → World → Prop}
    (hA : ∀ j, j < 4 → BoxT w (A j) (t j).tv) (hT : ∀ j, j < 4 → IsT w.heap.size w (t j)) (wd : ∀ j, j < 4 → ∀ x ∈ code (t j), x.2.2.2 ≤ 4194304)
    (hQ : ∀ (f : Nat → Value) (W : World) (P : Nat → Nat) (x : Nat → Tm n) (u16 u17 u18 u19 u20 u21 u22 u23 : Value), FourV t w W f P x → Q .normal ⟨#[v0, v1, v2, v3, .pointer (some ⟨A 0, 0, none⟩), .pointer (some ⟨A 1, 0, none⟩), .pointer (some ⟨A 2, 0, none⟩), .pointer (some ⟨A 3, 0, none⟩), v8, .pointer (some ⟨P 0, 0, none⟩), .pointer (some ⟨P 1, 0, none⟩), .pointer (some ⟨P 2, 0, none⟩), .pointer (some ⟨P 3, 0, none⟩), v13, v14, v15, u16, u17, u18, u19, u20, u21, u22, u23, v24, v25, v26, v27, v28, v29, v30, v31, v32, v33, v34, v35, v36, v37, v38, v39, v40, v41, v42, v43, v44, v45, v46, v47, v48, v49, v50, v51], d⟩ W) :
    (Code.region 3 #[{ dst := some 16, op := Op.load 24 (Operand.tmp 4), type := 24, pos := "memory.go:394", after := #[], guard := none }, { dst := some 17, op := Op.call { callee := Callee.value (Operand.func 5), args := #[Operand.tmp 16], argTypes := #[24] }, type := 24, pos := "memory.go:394", after := #[{ on := 0, ground := Ground.data }], guard := none }, { dst := some 18, op := Op.load 24 (Operand.tmp 5), type := 24, pos := "memory.go:394", after := #[], guard := none }, { dst := some 19, op := Op.call { callee := Callee.value (Operand.func 5), args := #[Operand.tmp 18], argTypes := #[24] }, type := 24, pos := "memory.go:394", after := #[{ on := 2, ground := Ground.data }, { on := 1, ground := Ground.chain }], guard := none }, { dst := some 20, op := Op.load 24 (Operand.tmp 6), type := 24, pos := "memory.go:394", after := #[], guard := none }, { dst := some 21, op := Op.call { callee := Callee.value (Operand.func 5), args := #[Operand.tmp 20], argTypes := #[24] }, type := 24, pos := "memory.go:394", after := #[{ on := 4, ground := Ground.data }, { on := 3, ground := Ground.chain }], guard := none }, { dst := some 22, op := Op.load 24 (Operand.tmp 7), type := 24, pos := "memory.go:394", after := #[], guard := none }, { dst := some 23, op := Op.call { callee := Callee.value (Operand.func 5), args := #[Operand.tmp 22], argTypes := #[24] }, type := 24, pos := "memory.go:394", after := #[{ on := 6, ground := Ground.data }, { on := 5, ground := Ground.chain }], guard := none }, { dst := some 9, op := Op.alloc 24, type := 0, pos := "memory.go:394", after := #[], guard := none }, { dst := some 10, op := Op.alloc 24, type := 0, pos := "memory.go:394", after := #[], guard := none }, { dst := some 11, op := Op.alloc 24, type := 0, pos := "memory.go:394", after := #[], guard := none }, { dst := some 12, op := Op.alloc 24, type := 0, pos := "memory.go:394", after := #[], guard := none }, { dst := none, op := Op.store 24 (Operand.tmp 9) (Operand.tmp 17), type := 0, pos := "memory.go:394", after := #[{ on := 8, ground := Ground.data }, { on := 1, ground := Ground.data }, { on := 7, ground := Ground.chain }, { on := 0, ground := Ground.phase }, { on := 1, ground := Ground.phase }, { on := 2, ground := Ground.textOnly Departure.lateStores }, { on := 3, ground := Ground.textOnly Departure.lateStoresUnsure }, { on := 4, ground := Ground.textOnly Departure.lateStores }, { on := 5, ground := Ground.textOnly Departure.lateStoresUnsure }, { on := 6, ground := Ground.textOnly Departure.lateStores }, { on := 7, ground := Ground.textOnly Departure.lateStoresUnsure }, { on := 8, ground := Ground.phase }, { on := 9, ground := Ground.phase }, { on := 10, ground := Ground.phase }, { on := 11, ground := Ground.phase }], guard := none }, { dst := none, op := Op.store 24 (Operand.tmp 10) (Operand.tmp 19), type := 0, pos := "memory.go:394", after := #[{ on := 9, ground := Ground.data }, { on := 3, ground := Ground.data }, { on := 12, ground := Ground.chain }, { on := 0, ground := Ground.phase }, { on := 1, ground := Ground.phase }, { on := 2, ground := Ground.phase }, { on := 3, ground := Ground.phase }, { on := 4, ground := Ground.textOnly Departure.lateStores }, { on := 5, ground := Ground.textOnly Departure.lateStoresUnsure }, { on := 6, ground := Ground.textOnly Departure.lateStores }, { on := 7, ground := Ground.textOnly Departure.lateStoresUnsure }, { on := 8, ground := Ground.phase }, { on := 9, ground := Ground.phase }, { on := 10, ground := Ground.phase }, { on := 11, ground := Ground.phase }, { on := 12, ground := Ground.phase }], guard := none }, { dst := none, op := Op.store 24 (Operand.tmp 11) (Operand.tmp 21), type := 0, pos := "memory.go:394", after := #[{ on := 10, ground := Ground.data }, { on := 5, ground := Ground.data }, { on := 13, ground := Ground.chain }, { on := 0, ground := Ground.phase }, { on := 1, ground := Ground.phase }, { on := 2, ground := Ground.phase }, { on := 3, ground := Ground.phase }, { on := 4, ground := Ground.phase }, { on := 5, ground := Ground.phase }, { on := 6, ground := Ground.textOnly Departure.lateStores }, { on := 7, ground := Ground.textOnly Departure.lateStoresUnsure }, { on := 8, ground := Ground.phase }, { on := 9, ground := Ground.phase }, { on := 10, ground := Ground.phase }, { on := 11, ground := Ground.phase }, { on := 12, ground := Ground.phase }, { on := 13, ground := Ground.phase }], guard := none }, { dst := none, op := Op.store 24 (Operand.tmp 12) (Operand.tmp 23), type := 0, pos := "memory.go:394", after := #[{ on := 11, ground := Ground.data }, { on := 7, ground := Ground.data }, { on := 14, ground := Ground.chain }, { on := 0, ground := Ground.phase }, { on := 1, ground := Ground.phase }, { on := 2, ground := Ground.phase }, { on := 3, ground := Ground.phase }, { on := 4, ground := Ground.phase }, { on := 5, ground := Ground.phase }, { on := 6, ground := Ground.phase }, { on := 7, ground := Ground.phase }, { on := 8, ground := Ground.phase }, { on := 9, ground := Ground.phase }, { on := 10, ground := Ground.phase }, { on := 11, ground := Ground.phase }, { on := 12, ground := Ground.phase }, { on := 13, ground := Ground.phase }, { on := 14, ground := Ground.phase }], guard := none }] true).wp Try.prog Q ⟨#[v0, v1, v2, v3, .pointer (some ⟨A 0, 0, none⟩), .pointer (some ⟨A 1, 0, none⟩), .pointer (some ⟨A 2, 0, none⟩), .pointer (some ⟨A 3, 0, none⟩), v8, v9, v10, v11, v12, v13, v14, v15, v16, v17, v18, v19, v20, v21, v22, v23, v24, v25, v26, v27, v28, v29, v30, v31, v32, v33, v34, v35, v36, v37, v38, v39, v40, v41, v42, v43, v44, v45, v46, v47, v48, v49, v50, v51], d⟩ w := by
  refine wp_fourV t A _ w Q rfl rfl rfl rfl rfl hA hT wd fun f W P x h => ?_
  have hq := hQ f W P x (f 16) (f 17) (f 18) (f 19) (f 20) (f 21) (f 22) (f 23) h
  rw [← h.ptr 0 (by decide), ← h.ptr 1 (by decide), ← h.ptr 2 (by decide), ← h.ptr 3 (by decide)] at hq
  exact hq
end Go.Proofs.Ytcdgmjpgmiehcaa

