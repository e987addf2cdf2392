import Derived.Test.YtojefplapklbmaaGreatDoorMrrs
/- Region 3 of the law: four copies and four boxes, drawn. -/
namespace Go.Proofs.YtojefplapklbmaaGreatDoor
open Go.RowKit Go.Shelf Go.Maps

/-- The slots that the region writes. -/
def slot (k : Nat) : Bool := (Nat.ble 11 k && Nat.ble k 14) || (Nat.ble 24 k && Nat.ble k 31)
theorem slot_iff (k : Nat) : slot k = true ↔ (11 ≤ k ∧ k ≤ 14) ∨ (24 ≤ k ∧ k ≤ 31) := by simp [slot]
def layL (f : Nat → Value) : Nat → List Value → List Value
  | _, [] => []
  | k, v :: l => (match slot k with | true => f k | false => v) :: layL f (k + 1) l
/-- The frame's slots with the region's own by f. -/
def lay (t : Array Value) (f : Nat → Value) : Array Value := (layL f 0 t.toList).toArray
theorem layL_at (f : Nat → Value) : ∀ (l : List Value) (k i : Nat), (layL f k l)[i]? = l[i]?.map fun v => match slot (k + i) with | true => f (k + i) | false => v := by
  intro l
  induction l with
  | nil => intro k i; simp [layL]
  | cons v l ih =>
    intro k i
    cases i with
    | zero => simp [layL]
    | succ i =>
      have h := ih (k + 1) i
      rw [show k + 1 + i = k + (i + 1) by omega] at h
      simpa [layL] using h
theorem lay_at (t : Array Value) (f : Nat → Value) (i : Nat) : (lay t f)[i]? = t[i]?.map fun v => match slot i with | true => f i | false => v := by
  have h := layL_at f t.toList 0 i
  rw [Nat.zero_add] at h
  simpa [lay] using h
theorem lay_slot (t : Array Value) (f : Nat → Value) (i : Nat) (hs : slot i = true) (hi : i < t.size) : (lay t f)[i]? = some (f i) := by
  rw [lay_at, Array.getElem?_eq_getElem hi]
  simp [hs]
theorem lay_off (t : Array Value) (f : Nat → Value) (i : Nat) (hs : slot i = false) : (lay t f)[i]? = t[i]? := by
  rw [lay_at]
  simp [hs]
theorem lay_put (t : Array Value) (f : Nat → Value) (d : Nat) (v : Value) (hs : slot d = true) : (lay t f).setIfInBounds d v = lay t (upd f d v) := by
  apply Array.ext_getElem?
  intro i
  rw [Array.getElem?_setIfInBounds, lay_at, lay_at]
  have hsz : (lay t f).size = t.size := by
    have : ∀ (l : List Value) (k : Nat), (layL f k l).length = l.length := by
      intro l
      induction l with
      | nil => intro k; rfl
      | cons v l ih => intro k; simp [layL, ih]
    simp [lay, this]
  rw [hsz]
  by_cases e : d = i
  · subst e
    rw [if_pos rfl]
    split
    · rename_i h; rw [Array.getElem?_eq_getElem h]; simp [hs]
    · rename_i h; rw [Array.getElem?_eq_none (by omega)]; rfl
  · rw [if_neg e, upd_off _ _ (fun h => e h.symm)]
theorem lay_self (t : Array Value) : lay t (fun k => t.getD k undef) = t := by
  apply Array.ext_getElem?
  intro i
  rw [lay_at]
  cases h : t[i]? with
  | none => rfl
  | some v => cases slot i <;> simp [h]

def rankB (ops : Array Oper) : Bool := (List.range ops.size).all fun i => (ops.getD i default).after.all fun e => !Region.binds .any e || Nat.blt e.on i
theorem rank_of {ops : Array Oper} (h : rankB ops = true) : ∀ i o, ops[i]? = some o → ∀ e ∈ o.after, Region.binds .any e = true → e.on < i := fun i o ho e he hb => by
  have hi : i < ops.size := (Array.getElem?_eq_some_iff.1 ho).1
  have h1 := List.all_eq_true.1 h i (List.mem_range.2 hi)
  rw [show ops.getD i default = o by simp [ho]] at h1
  have h2 := (Array.all_eq_true_iff_forall_mem.1 h1) e he
  simpa [hb] using h2

section
variable (n : Nat) (ca cb' : List Nd) (len len' : Nat) (cs cu : List (Int × List Nd))
/-- What each copying answers, what an empty box holds, what a full one does. -/
def R4 (lo : Nat) : Nat → (Nat → Prop) → World → Value → Prop
  | 0 => ResT lo n ca
  | 1 => ResT lo n cb'
  | 2 => ResB lo len n cs
  | 3 => ResB lo len' n cu
  | _ => fun _ _ _ => True
def Z4 : Nat → Obj
  | 0 => .cells #[.int .i64 0, .int .i64 0, .string ⟨#[]⟩, .slice none 0 0] 24 (0, 0)
  | 1 => .cells #[.int .i64 0, .int .i64 0, .string ⟨#[]⟩, .slice none 0 0] 24 (0, 0)
  | _ => .cells #[.slice none 0 0] 32 (0, 0)
def aggO : Value → Obj
  | .agg xs => .cells xs 24 (0, 0)
  | v => .cells #[v] 24 (0, 0)
def O4 : Nat → Value → Obj
  | 0 => aggO
  | 1 => aggO
  | _ => fun v => .cells #[v] 32 (0, 0)
theorem R4_stays (lo j : Nat) : Stays (R4 n ca cb' len len' cs cu lo j) := by
  match j with
  | 0 => exact resT_stays lo n ca
  | 1 => exact resT_stays lo n cb'
  | 2 => exact resB_stays lo len n cs
  | 3 => exact resB_stays lo len' n cu
  | j + 4 => exact ⟨fun _ _ => trivial, fun _ _ => trivial, fun _ _ _ _ => trivial⟩
end
theorem rep_no (m i : Nat) : (Array.replicate m false).getD i false = false := by
  simp only [Array.getD_eq_getD_getElem?, Array.getElem?_replicate]
  split <;> rfl
def cF (l : Array Bool) (j : Nat) : Bool := decide (j < 4) && l.getD (2 * j + 1) false
def aF (l : Array Bool) (j : Nat) : Bool := decide (j < 4) && l.getD (8 + j) false
def sF (l : Array Bool) (j : Nat) : Bool := decide (j < 4) && l.getD (12 + j) false
theorem flag_set {l : Array Bool} {i : Nat} (hi : i < l.size) (k : Nat) : (l.setIfInBounds i true).getD k false = if k = i then true else l.getD k false := by
  simp only [Array.getD_eq_getD_getElem?, Array.getElem?_setIfInBounds]
  by_cases e : i = k
  · subst e; simp [hi]
  · rw [if_neg e, if_neg (fun h => e h.symm)]
theorem flag_no {l : Array Bool} {i : Nat} (h : l.getD i true = false) : i < l.size ∧ l.getD i false = false := by
  simp only [Array.getD_eq_getD_getElem?] at h ⊢
  cases hk : l[i]? with
  | none => simp [hk] at h
  | some b => simp [hk] at h; subst h; exact ⟨(Array.getElem?_eq_some_iff.1 hk).1, by simp⟩
section
variable {l : Array Bool} {j : Nat}
theorem c_c (h : 2 * j + 1 < l.size) (hj : j < 4) : cF (l.setIfInBounds (2 * j + 1) true) = upd (cF l) j true := by
  funext i; simp only [cF, upd, flag_set h]; by_cases e : i = j
  · subst e; simp [hj]
  · rw [if_neg e, if_neg (by omega)]
theorem a_c (h : 2 * j + 1 < l.size) (hj : j < 4) : aF (l.setIfInBounds (2 * j + 1) true) = aF l := by
  funext i; simp only [aF, flag_set h]; rw [if_neg (by omega)]
theorem s_c (h : 2 * j + 1 < l.size) (hj : j < 4) : sF (l.setIfInBounds (2 * j + 1) true) = sF l := by
  funext i; simp only [sF, flag_set h]; rw [if_neg (by omega)]
theorem c_a (h : 8 + j < l.size) (hj : j < 4) : cF (l.setIfInBounds (8 + j) true) = cF l := by
  funext i; simp only [cF, flag_set h]; by_cases e : i < 4
  · rw [if_neg (by omega)]
  · simp [e]
theorem a_a (h : 8 + j < l.size) (hj : j < 4) : aF (l.setIfInBounds (8 + j) true) = upd (aF l) j true := by
  funext i; simp only [aF, upd, flag_set h]; by_cases e : i = j
  · subst e; simp [hj]
  · rw [if_neg e, if_neg (by omega)]
theorem s_a (h : 8 + j < l.size) (hj : j < 4) : sF (l.setIfInBounds (8 + j) true) = sF l := by
  funext i; simp only [sF, flag_set h]; rw [if_neg (by omega)]
theorem c_s (h : 12 + j < l.size) (hj : j < 4) : cF (l.setIfInBounds (12 + j) true) = cF l := by
  funext i; simp only [cF, flag_set h]; by_cases e : i < 4
  · rw [if_neg (by omega)]
  · simp [e]
theorem a_s (h : 12 + j < l.size) (hj : j < 4) : aF (l.setIfInBounds (12 + j) true) = aF l := by
  funext i; simp only [aF, flag_set h]; by_cases e : i < 4
  · rw [if_neg (by omega)]
  · simp [e]
theorem s_s (h : 12 + j < l.size) (hj : j < 4) : sF (l.setIfInBounds (12 + j) true) = upd (sF l) j true := by
  funext i; simp only [sF, upd, flag_set h]; by_cases e : i = j
  · subst e; simp [hj]
  · rw [if_neg e, if_neg (by omega)]
theorem c_l (h : 2 * j < l.size) (_hj : j < 4) : cF (l.setIfInBounds (2 * j) true) = cF l := by
  funext i; simp only [cF, flag_set h]; rw [if_neg (by omega)]
theorem a_l (h : 2 * j < l.size) (hj : j < 4) : aF (l.setIfInBounds (2 * j) true) = aF l := by
  funext i; simp only [aF, flag_set h]; rw [if_neg (by omega)]
theorem s_l (h : 2 * j < l.size) (hj : j < 4) : sF (l.setIfInBounds (2 * j) true) = sF l := by
  funext i; simp only [sF, flag_set h]; rw [if_neg (by omega)]
end
theorem boxT_frz {W : World} {B : Nat} {x : TV} (h : BoxT W B x) (o : Nat) : W.frozen? ⟨B, o, none⟩ = false := by simp [World.frozen?, show W.heap[B]? = _ from h]
theorem boxT_cell {W : World} {B o : Nat} {arr : Array Value} {T : TypeId} (h : W.heap[B]? = some (.cells arr T (0, 0))) (v : Value) : (W.setCell ⟨B, o, none⟩ v).heap[B]? = some (.cells (arr.setIfInBounds o v) T (0, 0)) := by
  obtain ⟨hlt, hk⟩ := Array.getElem?_eq_some_iff.1 h
  show (W.heap.modify B _)[B]? = _
  rw [Array.getElem?_eq_getElem (by rw [Array.size_modify]; exact hlt), Array.getElem_modify_self, hk]
  rfl
theorem boxT_set4 {W : World} {B : Nat} {y : TV} (h : BoxT W B y) (x : TV) : BoxT (set4 W B 0 x) B x :=
  boxT_cell (boxT_cell (boxT_cell (boxT_cell h _) _) _) _
/-- What holds at every moment. -/
def I4 (R : Nat → (Nat → Prop) → World → Value → Prop) (arg : Nat → Value) (a0 : Act) (w0 : World) (l : Array Bool) (a : Act) (w : World) : Prop :=
  ∃ (f : Nat → Value) (P : Nat → Nat), a = ⟨lay a0.tmps f, a0.defers⟩ ∧ Below w0.heap.size w0 w ∧ Reg w0.heap.size R Z4 O4 (cF l) (aF l) (sF l) (fun j => f (25 + 2 * j)) P w
    ∧ (∀ j, j < 4 → l.getD (2 * j) false = true → f (24 + 2 * j) = arg j) ∧ (∀ j, aF l j = true → f (11 + j) = .pointer (some ⟨P j, 0, none⟩)) ∧ (∀ j, sF l j = true → cF l j = true ∧ aF l j = true)
section
variable {R : Nat → (Nat → Prop) → World → Value → Prop} {arg : Nat → Value} {a0 : Act} {w0 w w' : World} {l : Array Bool} {f : Nat → Value} {P : Nat → Nat} {j : Nat}
theorem I4.load (hj : j < 4) (hl : l.getD (2 * j) true = false) (hb : Below w0.heap.size w0 w) (hr : Reg w0.heap.size R Z4 O4 (cF l) (aF l) (sF l) (fun j => f (25 + 2 * j)) P w)
    (ha : ∀ j, j < 4 → l.getD (2 * j) false = true → f (24 + 2 * j) = arg j) (hp : ∀ j, aF l j = true → f (11 + j) = .pointer (some ⟨P j, 0, none⟩)) (hs : ∀ j, sF l j = true → cF l j = true ∧ aF l j = true) :
    I4 R arg a0 w0 (l.setIfInBounds (2 * j) true) ⟨(lay a0.tmps f).setIfInBounds (24 + 2 * j) (arg j), a0.defers⟩ w := by
  obtain ⟨hi, hf⟩ := flag_no hl
  refine ⟨upd f (24 + 2 * j) (arg j), P, by rw [lay_put _ _ _ _ ((slot_iff _).2 (by omega))], hb, ?_, fun k hk h => ?_, fun k hk => ?_, fun k hk => ?_⟩
  · rw [c_l hi hj, a_l hi hj, s_l hi hj]
    rw [show (fun k => upd f (24 + 2 * j) (arg j) (25 + 2 * k)) = fun k => f (25 + 2 * k) from funext fun k => upd_off _ _ (by omega)]
    exact hr
  · by_cases e : k = j
    · subst e; rw [upd_at]
    · rw [upd_off _ _ (by omega)]
      rw [flag_set hi, if_neg (by omega)] at h
      exact ha k hk h
  · rw [a_l hi hj] at hk
    have h4 : k < 4 := by simp [aF] at hk; exact hk.1
    rw [upd_off _ _ (by omega)]
    exact hp k hk
  · rw [s_l hi hj] at hk
    rw [c_l hi hj, a_l hi hj]
    exact hs k hk
theorem I4.call (hR : ∀ j, Stays (R j)) (hj : j < 4) (hl : l.getD (2 * j + 1) true = false) (hb : Below w0.heap.size w0 w) (hr : Reg w0.heap.size R Z4 O4 (cF l) (aF l) (sF l) (fun j => f (25 + 2 * j)) P w)
    (ha : ∀ j, j < 4 → l.getD (2 * j) false = true → f (24 + 2 * j) = arg j) (hp : ∀ j, aF l j = true → f (11 + j) = .pointer (some ⟨P j, 0, none⟩)) (hs : ∀ j, sF l j = true → cF l j = true ∧ aF l j = true) {v : Value} (hb' : Below w.heap.size w w') (hv : R j (fun b => b < w.heap.size) w' v) :
    I4 R arg a0 w0 (l.setIfInBounds (2 * j + 1) true) ⟨(lay a0.tmps f).setIfInBounds (25 + 2 * j) v, a0.defers⟩ w' := by
  obtain ⟨hi, hf⟩ := flag_no hl
  have hst : sF l j = false := by
    cases h : sF l j with
    | false => rfl
    | true =>
      have := (hs j h).1
      simp only [cF, hf, Bool.and_false] at this
      cases this
  refine ⟨upd f (25 + 2 * j) v, P, by rw [lay_put _ _ _ _ ((slot_iff _).2 (by omega))], hb.trans (hb'.mono hb.size), ?_, fun k hk h => ?_, fun k hk => ?_, fun k hk => ?_⟩
  · rw [c_c hi hj, a_c hi hj, s_c hi hj]
    rw [show (fun k => upd f (25 + 2 * j) v (25 + 2 * k)) = upd (fun k => f (25 + 2 * k)) j v from funext fun k => by
      by_cases e : k = j
      · subst e; rw [upd_at, upd_at]
      · rw [upd_off _ _ (by omega), upd_off _ _ e]]
    exact hr.call hR hst hb' hv
  · rw [upd_off _ _ (by omega)]
    rw [flag_set hi, if_neg (by omega)] at h
    exact ha k hk h
  · rw [a_c hi hj] at hk
    have h4 : k < 4 := by simp [aF] at hk; exact hk.1
    rw [upd_off _ _ (by omega)]
    exact hp k hk
  · rw [s_c hi hj] at hk
    have h := hs k hk
    refine ⟨?_, by rw [a_c hi hj]; exact h.2⟩
    rw [c_c hi hj]
    by_cases e : k = j
    · subst e; rw [upd_at]
    · rw [upd_off _ _ e]; exact h.1
theorem I4.alloc (hR : ∀ j, Stays (R j)) (hj : j < 4) (hl : l.getD (8 + j) true = false) (hb : Below w0.heap.size w0 w) (hr : Reg w0.heap.size R Z4 O4 (cF l) (aF l) (sF l) (fun j => f (25 + 2 * j)) P w)
    (ha : ∀ j, j < 4 → l.getD (2 * j) false = true → f (24 + 2 * j) = arg j) (hp : ∀ j, aF l j = true → f (11 + j) = .pointer (some ⟨P j, 0, none⟩)) (hs : ∀ j, sF l j = true → cF l j = true ∧ aF l j = true) (hb' : Below w.heap.size w w') (hz : w.heap.size < w'.heap.size) (hn : w'.heap[w.heap.size]? = some (Z4 j)) :
    I4 R arg a0 w0 (l.setIfInBounds (8 + j) true) ⟨(lay a0.tmps f).setIfInBounds (11 + j) (.pointer (some ⟨w.heap.size, 0, none⟩)), a0.defers⟩ w' := by
  obtain ⟨hi, hf⟩ := flag_no hl
  have hal : aF l j = false := by simp only [aF, hf, Bool.and_false]
  have hst : sF l j = false := by
    cases h : sF l j with
    | false => rfl
    | true =>
      have := (hs j h).2
      rw [hal] at this
      cases this
  refine ⟨upd f (11 + j) (.pointer (some ⟨w.heap.size, 0, none⟩)), upd P j w.heap.size, by rw [lay_put _ _ _ _ ((slot_iff _).2 (by omega))], hb.trans (hb'.mono hb.size), ?_, fun k hk h => ?_, fun k hk => ?_, fun k hk => ?_⟩
  · rw [c_a hi hj, a_a hi hj, s_a hi hj]
    rw [show (fun k => upd f (11 + j) (.pointer (some ⟨w.heap.size, 0, none⟩)) (25 + 2 * k)) = fun k => f (25 + 2 * k) from funext fun k => upd_off _ _ (by omega)]
    exact hr.alloc hR hst hal hb.size hb' hz hn
  · rw [upd_off _ _ (by omega)]
    rw [flag_set hi, if_neg (by omega)] at h
    exact ha k hk h
  · rw [a_a hi hj] at hk
    by_cases e : k = j
    · subst e; rw [upd_at, upd_at]
    · rw [upd_off _ _ e] at hk ⊢
      rw [upd_off _ _ (by omega)]
      exact hp k hk
  · rw [s_a hi hj] at hk
    have h := hs k hk
    refine ⟨by rw [c_a hi hj]; exact h.1, ?_⟩
    rw [a_a hi hj]
    by_cases e : k = j
    · subst e; rw [upd_at]
    · rw [upd_off _ _ e]; exact h.2
theorem I4.store (hR : ∀ j, Stays (R j)) (hj : j < 4) (hl : l.getD (12 + j) true = false) (hb : Below w0.heap.size w0 w) (hr : Reg w0.heap.size R Z4 O4 (cF l) (aF l) (sF l) (fun j => f (25 + 2 * j)) P w)
    (ha : ∀ j, j < 4 → l.getD (2 * j) false = true → f (24 + 2 * j) = arg j) (hp : ∀ j, aF l j = true → f (11 + j) = .pointer (some ⟨P j, 0, none⟩)) (hs : ∀ j, sF l j = true → cF l j = true ∧ aF l j = true) (hc : cF l j = true) (hal : aF l j = true)
    (hw : ∀ b, b ≠ P j → w'.heap[b]? = w.heap[b]?) (hz : w'.heap.size = w.heap.size) (hn : w'.heap[P j]? = some (O4 j (f (25 + 2 * j)))) (hos : w'.os = w.os) (htp : w'.tape = w.tape) (hou : w'.output = w.output) :
    I4 R arg a0 w0 (l.setIfInBounds (12 + j) true) ⟨lay a0.tmps f, a0.defers⟩ w' := by
  obtain ⟨hi, hf⟩ := flag_no hl
  have hlo := (hr.box j hal).1
  refine ⟨f, P, rfl, ⟨hos.trans hb.os, htp.trans hb.tape, hou.trans hb.output, by rw [hz]; exact hb.size, fun k hk => (hw k (by omega)).trans (hb.block k hk)⟩, ?_, fun k hk h => ?_, fun k hk => ?_, fun k hk => ?_⟩
  · rw [c_s hi hj, a_s hi hj, s_s hi hj]
    exact hr.store hR hal hw hz hn
  · rw [flag_set hi, if_neg (by omega)] at h
    exact ha k hk h
  · rw [a_s hi hj] at hk
    exact hp k hk
  · rw [c_s hi hj, a_s hi hj]
    rw [s_s hi hj] at hk
    by_cases e : k = j
    · subst e; exact ⟨hc, hal⟩
    · rw [upd_off _ _ e] at hk
      exact hs k hk
end

/-- What the slots and the boxes hold behind it. -/
structure Four {n : Nat} (a b : Tm n) (ss us : List (Int × Tm n)) (len len' : Nat) (w0 W : World) (f : Nat → Value) (X Y P Q' : Nat) (x y : Tm n) (ps qs : List (Int × Tm n)) (g cp g' cp' : Nat) : Prop where
  below : Below w0.heap.size w0 W
  f11 : f 11 = .pointer (some ⟨X, 0, none⟩)
  f12 : f 12 = .pointer (some ⟨Y, 0, none⟩)
  f13 : f 13 = .pointer (some ⟨P, 0, none⟩)
  f14 : f 14 = .pointer (some ⟨Q', 0, none⟩)
  bx : BoxT W X x.tv
  by' : BoxT W Y y.tv
  bp : Boxed W P 32 (.slice (some ⟨g, 0, none⟩) len cp)
  bq : Boxed W Q' 32 (.slice (some ⟨g', 0, none⟩) len' cp')
  ox : Owned w0.heap.size W x
  oy : Owned w0.heap.size W y
  op : OwnedB w0.heap.size W g len cp ps
  oq : OwnedB w0.heap.size W g' len' cp' qs
  cx : code x = code a
  cy : code y = code b
  cp : cb ps = cb ss
  cq : cb qs = cb us
set_option maxRecDepth 100000 in
set_option maxHeartbeats 2000000 in
theorem wp_four {n : Nat} (a b : Tm n) (ss us : List (Int × Tm n)) (sa au : Option Addr) (len cap len' cap' A B : Nat) (a0 : Act) (w : World) (Q : Exit → Act → World → Prop) (hsz : a0.tmps.size = 110)
    (h5 : a0.tmps[5]? = some (.pointer (some ⟨A, 0, none⟩))) (h6 : a0.tmps[6]? = some (.pointer (some ⟨B, 0, none⟩))) (h2 : a0.tmps[2]? = some (.slice sa len cap)) (h3 : a0.tmps[3]? = some (.slice au len' cap'))
    (hA : BoxT w A a.tv) (hB : BoxT w B b.tv) (hTa : IsT w.heap.size w a) (hTb : IsT w.heap.size w b) (hL : IsL w.heap.size w sa len ss) (hL' : IsL w.heap.size w au len' us)
    (wa : ∀ x ∈ code a, x.2.2.2 ≤ 4194304) (wb : ∀ x ∈ code b, x.2.2.2 ≤ 4194304) (hlen : len ≤ 4194304) (hlen' : len' ≤ 4194304) (ws : ∀ p ∈ ss, ∀ x ∈ code p.2, x.2.2.2 ≤ 4194304) (wu : ∀ p ∈ us, ∀ x ∈ code p.2, x.2.2.2 ≤ 4194304)
    (hQ : ∀ (f : Nat → Value) (W : World) (X Y P Q' : Nat) (x y : Tm n) (ps qs : List (Int × Tm n)) (g cp g' cp' : Nat), Four a b ss us len len' w W f X Y P Q' x y ps qs g cp g' cp' → Q .normal ⟨lay a0.tmps f, a0.defers⟩ W) :
    (Code.region 3 #[{ dst := some 24, op := Op.load 24 (Operand.tmp 5), type := 24, pos := "memory.go:160", after := #[], guard := none }, { dst := some 25, op := Op.call { callee := Callee.value (Operand.func 10), args := #[Operand.tmp 24], argTypes := #[24] }, type := 24, pos := "memory.go:160", after := #[{ on := 0, ground := Ground.data }], guard := none }, { dst := some 26, op := Op.load 24 (Operand.tmp 6), type := 24, pos := "memory.go:160", after := #[], guard := none }, { dst := some 27, op := Op.call { callee := Callee.value (Operand.func 10), args := #[Operand.tmp 26], argTypes := #[24] }, type := 24, pos := "memory.go:160", after := #[{ on := 2, ground := Ground.data }, { on := 1, ground := Ground.chain }], guard := none }, { dst := some 28, op := Op.move (Operand.tmp 2), type := 32, pos := "memory.go:160", after := #[], guard := none }, { dst := some 29, op := Op.call { callee := Callee.value (Operand.func 11), args := #[Operand.tmp 28], argTypes := #[32] }, type := 32, pos := "memory.go:160", after := #[{ on := 4, ground := Ground.data }, { on := 3, ground := Ground.chain }], guard := none }, { dst := some 30, op := Op.move (Operand.tmp 3), type := 32, pos := "memory.go:160", after := #[], guard := none }, { dst := some 31, op := Op.call { callee := Callee.value (Operand.func 11), args := #[Operand.tmp 30], argTypes := #[32] }, type := 32, pos := "memory.go:160", after := #[{ on := 6, ground := Ground.data }, { on := 5, ground := Ground.chain }], guard := none }, { dst := some 11, op := Op.alloc 24, type := 0, pos := "memory.go:160", after := #[], guard := none }, { dst := some 12, op := Op.alloc 24, type := 0, pos := "memory.go:160", after := #[], guard := none }, { dst := some 13, op := Op.alloc 32, type := 0, pos := "memory.go:160", after := #[], guard := none }, { dst := some 14, op := Op.alloc 32, type := 0, pos := "memory.go:160", after := #[], guard := none }, { dst := none, op := Op.store 24 (Operand.tmp 11) (Operand.tmp 25), type := 0, pos := "memory.go:160", after := #[{ on := 8, ground := Ground.data }, { on := 1, ground := Ground.data }, { on := 7, ground := Ground.chain }, { on := 0, ground := Ground.phase }, { on := 1, ground := Ground.phase }, { on := 2, ground := Ground.textOnly Departure.lateStores }, { on := 3, ground := Ground.textOnly Departure.lateStoresUnsure }, { on := 4, ground := Ground.textOnly Departure.lateStores }, { on := 5, ground := Ground.textOnly Departure.lateStoresUnsure }, { on := 6, ground := Ground.textOnly Departure.lateStores }, { on := 7, ground := Ground.textOnly Departure.lateStoresUnsure }, { on := 8, ground := Ground.phase }, { on := 9, ground := Ground.phase }, { on := 10, ground := Ground.phase }, { on := 11, ground := Ground.phase }], guard := none }, { dst := none, op := Op.store 24 (Operand.tmp 12) (Operand.tmp 27), type := 0, pos := "memory.go:160", after := #[{ on := 9, ground := Ground.data }, { on := 3, ground := Ground.data }, { on := 12, ground := Ground.chain }, { on := 0, ground := Ground.phase }, { on := 1, ground := Ground.phase }, { on := 2, ground := Ground.phase }, { on := 3, ground := Ground.phase }, { on := 4, ground := Ground.textOnly Departure.lateStores }, { on := 5, ground := Ground.textOnly Departure.lateStoresUnsure }, { on := 6, ground := Ground.textOnly Departure.lateStores }, { on := 7, ground := Ground.textOnly Departure.lateStoresUnsure }, { on := 8, ground := Ground.phase }, { on := 9, ground := Ground.phase }, { on := 10, ground := Ground.phase }, { on := 11, ground := Ground.phase }, { on := 12, ground := Ground.phase }], guard := none }, { dst := none, op := Op.store 32 (Operand.tmp 13) (Operand.tmp 29), type := 0, pos := "memory.go:160", after := #[{ on := 10, ground := Ground.data }, { on := 5, ground := Ground.data }, { on := 13, ground := Ground.chain }, { on := 0, ground := Ground.phase }, { on := 1, ground := Ground.phase }, { on := 2, ground := Ground.phase }, { on := 3, ground := Ground.phase }, { on := 4, ground := Ground.phase }, { on := 5, ground := Ground.phase }, { on := 6, ground := Ground.textOnly Departure.lateStores }, { on := 7, ground := Ground.textOnly Departure.lateStoresUnsure }, { on := 8, ground := Ground.phase }, { on := 9, ground := Ground.phase }, { on := 10, ground := Ground.phase }, { on := 11, ground := Ground.phase }, { on := 12, ground := Ground.phase }, { on := 13, ground := Ground.phase }], guard := none }, { dst := none, op := Op.store 32 (Operand.tmp 14) (Operand.tmp 31), type := 0, pos := "memory.go:160", after := #[{ on := 11, ground := Ground.data }, { on := 7, ground := Ground.data }, { on := 14, ground := Ground.chain }, { on := 0, ground := Ground.phase }, { on := 1, ground := Ground.phase }, { on := 2, ground := Ground.phase }, { on := 3, ground := Ground.phase }, { on := 4, ground := Ground.phase }, { on := 5, ground := Ground.phase }, { on := 6, ground := Ground.phase }, { on := 7, ground := Ground.phase }, { on := 8, ground := Ground.phase }, { on := 9, ground := Ground.phase }, { on := 10, ground := Ground.phase }, { on := 11, ground := Ground.phase }, { on := 12, ground := Ground.phase }, { on := 13, ground := Ground.phase }, { on := 14, ground := Ground.phase }], guard := none }] true).wp Tryz.prog Q a0 w := by
  have hR := R4_stays n (code a) (code b) len len' (cb ss) (cb us) w.heap.size
  refine wp_region_inv (by kernel_rfl) (I4 (R4 n (code a) (code b) len len' (cb ss) (cb us) w.heap.size) (fun j => match j with | 0 => a.tv.val | 1 => b.tv.val | 2 => .slice sa len cap | _ => .slice au len' cap') a0 w) (rank_of (by kernel_rfl)) ?_ ?_ ?_
  · intro l ac v i o hls hI ho hl haft K hK
    obtain ⟨f, P, rfl, hb, hr, ha, hp, hs⟩ := hI
    have e5 : (lay a0.tmps f)[5]? = some (.pointer (some ⟨A, 0, none⟩)) := (lay_off _ _ _ rfl).trans h5
    have e6 : (lay a0.tmps f)[6]? = some (.pointer (some ⟨B, 0, none⟩)) := (lay_off _ _ _ rfl).trans h6
    have e2 : (lay a0.tmps f)[2]? = some (.slice sa len cap) := (lay_off _ _ _ rfl).trans h2
    have e3 : (lay a0.tmps f)[3]? = some (.slice au len' cap') := (lay_off _ _ _ rfl).trans h3
    have es : ∀ k, slot k = true → (lay a0.tmps f)[k]? = some (f k) := fun k hk => lay_slot _ _ _ hk (by have := (slot_iff k).1 hk; omega)
    rcases i with _|_|_|_|_|_|_|_|_|_|_|_|_|_|_|_|i
    · obtain rfl := Option.some.inj ho
      clear ho
      have HR := hide hr
      have HA := hide ha
      have HP := hide hp
      have HS := hide hs
      have HK := hide hK
      have HF := hide haft
      clear hr ha hp hs hK haft
      have hx := box_at hA hb
      have x0 := hx.c0
      have x1 := hx.c1
      have x2 := hx.c2
      have x3 := hx.c3
      go_simp
      exact (unhide HK) _ _ (I4.load (j := 0) (by decide) hl hb (unhide HR) (unhide HA) (unhide HP) (unhide HS))
    · obtain rfl := Option.some.inj ho
      clear ho
      have HR := hide hr
      have HA := hide ha
      have HP := hide hp
      have HS := hide hs
      have HK := hide hK
      have HF := hide haft
      clear hr ha hp hs hK haft
      have e1 : (lay a0.tmps f)[24]? = some (a.tv.val) := by rw [es 24 rfl]; exact congrArg some ((unhide HA) 0 (by decide) ((unhide HF) { on := 0, ground := .data } (by simp) rfl))
      have hc := own_any n a v (at_world hTa hb) wa
      clear es e2 e3 e5 e6
      go_simp
      refine hc.mono ?_
      clear hc
      rintro e V ⟨t, rfl, hb', ho, hcd⟩
      exact (unhide HK) _ _ (I4.call (j := 0) hR (by decide) hl hb (unhide HR) (unhide HA) (unhide HP) (unhide HS) hb' (resT_new ho hb.size hcd))
    · obtain rfl := Option.some.inj ho
      clear ho
      have HR := hide hr
      have HA := hide ha
      have HP := hide hp
      have HS := hide hs
      have HK := hide hK
      have HF := hide haft
      clear hr ha hp hs hK haft
      have hx := box_at hB hb
      have x0 := hx.c0
      have x1 := hx.c1
      have x2 := hx.c2
      have x3 := hx.c3
      go_simp
      exact (unhide HK) _ _ (I4.load (j := 1) (by decide) hl hb (unhide HR) (unhide HA) (unhide HP) (unhide HS))
    · obtain rfl := Option.some.inj ho
      clear ho
      have HR := hide hr
      have HA := hide ha
      have HP := hide hp
      have HS := hide hs
      have HK := hide hK
      have HF := hide haft
      clear hr ha hp hs hK haft
      have e1 : (lay a0.tmps f)[26]? = some (b.tv.val) := by rw [es 26 rfl]; exact congrArg some ((unhide HA) 1 (by decide) ((unhide HF) { on := 2, ground := .data } (by simp) rfl))
      have hc := own_any n b v (at_world hTb hb) wb
      clear es e2 e3 e5 e6
      go_simp
      refine hc.mono ?_
      clear hc
      rintro e V ⟨t, rfl, hb', ho, hcd⟩
      exact (unhide HK) _ _ (I4.call (j := 1) hR (by decide) hl hb (unhide HR) (unhide HA) (unhide HP) (unhide HS) hb' (resT_new ho hb.size hcd))
    · obtain rfl := Option.some.inj ho
      clear ho
      have HR := hide hr
      have HA := hide ha
      have HP := hide hp
      have HS := hide hs
      have HK := hide hK
      have HF := hide haft
      clear hr ha hp hs hK haft
      go_simp
      exact (unhide HK) _ _ (I4.load (j := 2) (by decide) hl hb (unhide HR) (unhide HA) (unhide HP) (unhide HS))
    · obtain rfl := Option.some.inj ho
      clear ho
      have HR := hide hr
      have HA := hide ha
      have HP := hide hp
      have HS := hide hs
      have HK := hide hK
      have HF := hide haft
      clear hr ha hp hs hK haft
      have e1 : (lay a0.tmps f)[28]? = some (.slice sa len cap) := by rw [es 28 rfl]; exact congrArg some ((unhide HA) 2 (by decide) ((unhide HF) { on := 4, ground := .data } (by simp) rfl))
      have hc := ownBinds_any ss sa len cap v ((hL.below hb).mono hb.size) hlen ws
      clear es e2 e3 e5 e6
      go_simp
      refine hc.mono ?_
      clear hc
      rintro e V ⟨g, cp, bs, rfl, hb', ho, hcd⟩
      exact (unhide HK) _ _ (I4.call (j := 2) hR (by decide) hl hb (unhide HR) (unhide HA) (unhide HP) (unhide HS) hb' (resB_new ho hb.size hcd))
    · obtain rfl := Option.some.inj ho
      clear ho
      have HR := hide hr
      have HA := hide ha
      have HP := hide hp
      have HS := hide hs
      have HK := hide hK
      have HF := hide haft
      clear hr ha hp hs hK haft
      go_simp
      exact (unhide HK) _ _ (I4.load (j := 3) (by decide) hl hb (unhide HR) (unhide HA) (unhide HP) (unhide HS))
    · obtain rfl := Option.some.inj ho
      clear ho
      have HR := hide hr
      have HA := hide ha
      have HP := hide hp
      have HS := hide hs
      have HK := hide hK
      have HF := hide haft
      clear hr ha hp hs hK haft
      have e1 : (lay a0.tmps f)[30]? = some (.slice au len' cap') := by rw [es 30 rfl]; exact congrArg some ((unhide HA) 3 (by decide) ((unhide HF) { on := 6, ground := .data } (by simp) rfl))
      have hc := ownBinds_any us au len' cap' v ((hL'.below hb).mono hb.size) hlen' wu
      clear es e2 e3 e5 e6
      go_simp
      refine hc.mono ?_
      clear hc
      rintro e V ⟨g, cp, bs, rfl, hb', ho, hcd⟩
      exact (unhide HK) _ _ (I4.call (j := 3) hR (by decide) hl hb (unhide HR) (unhide HA) (unhide HP) (unhide HS) hb' (resB_new ho hb.size hcd))
    · obtain rfl := Option.some.inj ho
      clear ho
      have HR := hide hr
      have HA := hide ha
      have HP := hide hp
      have HS := hide hs
      have HK := hide hK
      have HF := hide haft
      clear hr ha hp hs hK haft
      go_simp
      exact (unhide HK) _ _ (I4.alloc (j := 0) hR (by decide) hl hb (unhide HR) (unhide HA) (unhide HP) (unhide HS) ((Below.refl _ v).alloc (Nat.le_refl _) _) (by simp) (World.alloc_heap_new v _))
    · obtain rfl := Option.some.inj ho
      clear ho
      have HR := hide hr
      have HA := hide ha
      have HP := hide hp
      have HS := hide hs
      have HK := hide hK
      have HF := hide haft
      clear hr ha hp hs hK haft
      go_simp
      exact (unhide HK) _ _ (I4.alloc (j := 1) hR (by decide) hl hb (unhide HR) (unhide HA) (unhide HP) (unhide HS) ((Below.refl _ v).alloc (Nat.le_refl _) _) (by simp) (World.alloc_heap_new v _))
    · obtain rfl := Option.some.inj ho
      clear ho
      have HR := hide hr
      have HA := hide ha
      have HP := hide hp
      have HS := hide hs
      have HK := hide hK
      have HF := hide haft
      clear hr ha hp hs hK haft
      go_simp
      exact (unhide HK) _ _ (I4.alloc (j := 2) hR (by decide) hl hb (unhide HR) (unhide HA) (unhide HP) (unhide HS) ((Below.refl _ v).alloc (Nat.le_refl _) _) (by simp) (World.alloc_heap_new v _))
    · obtain rfl := Option.some.inj ho
      clear ho
      have HR := hide hr
      have HA := hide ha
      have HP := hide hp
      have HS := hide hs
      have HK := hide hK
      have HF := hide haft
      clear hr ha hp hs hK haft
      go_simp
      exact (unhide HK) _ _ (I4.alloc (j := 3) hR (by decide) hl hb (unhide HR) (unhide HA) (unhide HP) (unhide HS) ((Below.refl _ v).alloc (Nat.le_refl _) _) (by simp) (World.alloc_heap_new v _))
    · obtain rfl := Option.some.inj ho
      clear ho
      have HR := hide hr
      have HA := hide ha
      have HP := hide hp
      have HS := hide hs
      have HK := hide hK
      have HF := hide haft
      clear hr ha hp hs hK haft
      have hc : cF l 0 = true := by simp only [cF, Bool.and_eq_true]; exact ⟨rfl, (unhide HF) { on := 1, ground := .data } (by simp) rfl⟩
      have hal : aF l 0 = true := by simp only [aF, Bool.and_eq_true]; exact ⟨rfl, (unhide HF) { on := 8, ground := .data } (by simp) rfl⟩
      have hst : sF l 0 = false := by simp only [sF, show l.getD (12 + 0) false = false from (flag_no hl).2, Bool.and_false]
      have hbx := ((unhide HR).box 0 hal).2.2
      rw [if_neg (by simp [hst])] at hbx
      have ep : (lay a0.tmps f)[11]? = some (.pointer (some ⟨P 0, 0, none⟩)) := by rw [es 11 rfl]; exact congrArg some ((unhide HP) 0 hal)
      obtain ⟨x, ex, -, -, -⟩ : ResT w.heap.size n (code a) _ v (f 25) := (unhide HR).res 0 hc
      have ev : (lay a0.tmps f)[25]? = some (.agg #[.int .i64 x.tv.k, .int .i64 x.tv.N, .string x.tv.s, .slice x.tv.a x.tv.len x.tv.cap]) := by rw [es 25 rfl, ex]; rfl
      have hz : BoxT v (P 0) zeroT := hbx
      have f0 := boxT_frz hz 0
      have f1 := boxT_frz hz 1
      have f2 := boxT_frz hz 2
      have f3 := boxT_frz hz 3
      have z0 := hz.c0
      have z1 := hz.c1
      have z2 := hz.c2
      have z3 := hz.c3
      have hbox := boxT_set4 hz x.tv
      have HB := hide hbx
      have HE := hide ex
      clear hbx hz ex es e2 e3 e5 e6 hst
      go_simp
      refine (unhide HK) _ _ (I4.store (j := 0) (w' := set4 v (P 0) 0 x.tv) hR (by decide) hl hb (unhide HR) (unhide HA) (unhide HP) (unhide HS) hc hal (fun b hb => set4_other _ _ _ _ hb) (set4_size _ _ _ _) ?_ rfl rfl rfl)
      rw [show 25 + 2 * 0 = 25 from rfl, unhide HE]
      exact hbox
    · obtain rfl := Option.some.inj ho
      clear ho
      have HR := hide hr
      have HA := hide ha
      have HP := hide hp
      have HS := hide hs
      have HK := hide hK
      have HF := hide haft
      clear hr ha hp hs hK haft
      have hc : cF l 1 = true := by simp only [cF, Bool.and_eq_true]; exact ⟨rfl, (unhide HF) { on := 3, ground := .data } (by simp) rfl⟩
      have hal : aF l 1 = true := by simp only [aF, Bool.and_eq_true]; exact ⟨rfl, (unhide HF) { on := 9, ground := .data } (by simp) rfl⟩
      have hst : sF l 1 = false := by simp only [sF, show l.getD (12 + 1) false = false from (flag_no hl).2, Bool.and_false]
      have hbx := ((unhide HR).box 1 hal).2.2
      rw [if_neg (by simp [hst])] at hbx
      have ep : (lay a0.tmps f)[12]? = some (.pointer (some ⟨P 1, 0, none⟩)) := by rw [es 12 rfl]; exact congrArg some ((unhide HP) 1 hal)
      obtain ⟨x, ex, -, -, -⟩ : ResT w.heap.size n (code b) _ v (f 27) := (unhide HR).res 1 hc
      have ev : (lay a0.tmps f)[27]? = some (.agg #[.int .i64 x.tv.k, .int .i64 x.tv.N, .string x.tv.s, .slice x.tv.a x.tv.len x.tv.cap]) := by rw [es 27 rfl, ex]; rfl
      have hz : BoxT v (P 1) zeroT := hbx
      have f0 := boxT_frz hz 0
      have f1 := boxT_frz hz 1
      have f2 := boxT_frz hz 2
      have f3 := boxT_frz hz 3
      have z0 := hz.c0
      have z1 := hz.c1
      have z2 := hz.c2
      have z3 := hz.c3
      have hbox := boxT_set4 hz x.tv
      have HB := hide hbx
      have HE := hide ex
      clear hbx hz ex es e2 e3 e5 e6 hst
      go_simp
      refine (unhide HK) _ _ (I4.store (j := 1) (w' := set4 v (P 1) 0 x.tv) hR (by decide) hl hb (unhide HR) (unhide HA) (unhide HP) (unhide HS) hc hal (fun b hb => set4_other _ _ _ _ hb) (set4_size _ _ _ _) ?_ rfl rfl rfl)
      rw [show 25 + 2 * 1 = 27 from rfl, unhide HE]
      exact hbox
    · obtain rfl := Option.some.inj ho
      clear ho
      have HR := hide hr
      have HA := hide ha
      have HP := hide hp
      have HS := hide hs
      have HK := hide hK
      have HF := hide haft
      clear hr ha hp hs hK haft
      have hc : cF l 2 = true := by simp only [cF, Bool.and_eq_true]; exact ⟨rfl, (unhide HF) { on := 5, ground := .data } (by simp) rfl⟩
      have hal : aF l 2 = true := by simp only [aF, Bool.and_eq_true]; exact ⟨rfl, (unhide HF) { on := 10, ground := .data } (by simp) rfl⟩
      have hst : sF l 2 = false := by simp only [sF, show l.getD (12 + 2) false = false from (flag_no hl).2, Bool.and_false]
      have hbx := ((unhide HR).box 2 hal).2.2
      rw [if_neg (by simp [hst])] at hbx
      have ep : (lay a0.tmps f)[13]? = some (.pointer (some ⟨P 2, 0, none⟩)) := by rw [es 13 rfl]; exact congrArg some ((unhide HP) 2 hal)
      obtain ⟨g, cp, bs, ex, -, -, -, -⟩ : ResB w.heap.size len n (cb ss) _ v (f 29) := (unhide HR).res 2 hc
      have ev : (lay a0.tmps f)[29]? = some (.slice (some ⟨g, 0, none⟩) len cp) := by rw [es 29 rfl, ex]
      have hz : Boxed v (P 2) 32 (.slice none 0 0) := hbx
      have f0 := hz.frozen
      have z0 := hz.cell
      have hbox := hz.set (.slice (some ⟨g, 0, none⟩) len cp)
      have HE := hide ex
      have HB := hide hbx
      clear hbx hz ex es e2 e3 e5 e6 hst
      go_simp
      refine (unhide HK) _ _ (I4.store (j := 2) (w' := v.setCell ⟨P 2, 0, none⟩ (.slice (some ⟨g, 0, none⟩) len cp)) hR (by decide) hl hb (unhide HR) (unhide HA) (unhide HP) (unhide HS) hc hal (fun b hb => Below.heap_setCell _ _ _ b hb) (by simp) ?_ rfl rfl rfl)
      rw [show 25 + 2 * 2 = 29 from rfl, unhide HE]
      exact hbox
    · obtain rfl := Option.some.inj ho
      clear ho
      have HR := hide hr
      have HA := hide ha
      have HP := hide hp
      have HS := hide hs
      have HK := hide hK
      have HF := hide haft
      clear hr ha hp hs hK haft
      have hc : cF l 3 = true := by simp only [cF, Bool.and_eq_true]; exact ⟨rfl, (unhide HF) { on := 7, ground := .data } (by simp) rfl⟩
      have hal : aF l 3 = true := by simp only [aF, Bool.and_eq_true]; exact ⟨rfl, (unhide HF) { on := 11, ground := .data } (by simp) rfl⟩
      have hst : sF l 3 = false := by simp only [sF, show l.getD (12 + 3) false = false from (flag_no hl).2, Bool.and_false]
      have hbx := ((unhide HR).box 3 hal).2.2
      rw [if_neg (by simp [hst])] at hbx
      have ep : (lay a0.tmps f)[14]? = some (.pointer (some ⟨P 3, 0, none⟩)) := by rw [es 14 rfl]; exact congrArg some ((unhide HP) 3 hal)
      obtain ⟨g, cp, bs, ex, -, -, -, -⟩ : ResB w.heap.size len' n (cb us) _ v (f 31) := (unhide HR).res 3 hc
      have ev : (lay a0.tmps f)[31]? = some (.slice (some ⟨g, 0, none⟩) len' cp) := by rw [es 31 rfl, ex]
      have hz : Boxed v (P 3) 32 (.slice none 0 0) := hbx
      have f0 := hz.frozen
      have z0 := hz.cell
      have hbox := hz.set (.slice (some ⟨g, 0, none⟩) len' cp)
      have HE := hide ex
      have HB := hide hbx
      clear hbx hz ex es e2 e3 e5 e6 hst
      go_simp
      refine (unhide HK) _ _ (I4.store (j := 3) (w' := v.setCell ⟨P 3, 0, none⟩ (.slice (some ⟨g, 0, none⟩) len' cp)) hR (by decide) hl hb (unhide HR) (unhide HA) (unhide HP) (unhide HS) hc hal (fun b hb => Below.heap_setCell _ _ _ b hb) (by simp) ?_ rfl rfl rfl)
      rw [show 25 + 2 * 3 = 31 from rfl, unhide HE]
      exact hbox
    · cases ho
  · intro l ac v hI hall
    obtain ⟨f, P, rfl, hb, hr, ha, hp, hs⟩ := hI
    have hc : ∀ j, j < 4 → cF l j = true := fun j hj => by simp only [cF, Bool.and_eq_true]; exact ⟨by simpa using hj, hall _ (by show 2 * j + 1 < 16; omega)⟩
    have hal : ∀ j, j < 4 → aF l j = true := fun j hj => by simp only [aF, Bool.and_eq_true]; exact ⟨by simpa using hj, hall _ (by show 8 + j < 16; omega)⟩
    have hst : ∀ j, j < 4 → sF l j = true := fun j hj => by simp only [sF, Bool.and_eq_true]; exact ⟨by simpa using hj, hall _ (by show 12 + j < 16; omega)⟩
    obtain ⟨x, ex, ox, _, cx⟩ : ResT w.heap.size n (code a) _ v (f 25) := hr.res 0 (hc 0 (by decide))
    obtain ⟨y, ey, oy, _, cy⟩ : ResT w.heap.size n (code b) _ v (f 27) := hr.res 1 (hc 1 (by decide))
    obtain ⟨g, cp, ps, ep, op, _, _, cps⟩ : ResB w.heap.size len n (cb ss) _ v (f 29) := hr.res 2 (hc 2 (by decide))
    obtain ⟨g', cp', qs, eq, oq, _, _, cqs⟩ : ResB w.heap.size len' n (cb us) _ v (f 31) := hr.res 3 (hc 3 (by decide))
    have hbx : ∀ j, j < 4 → v.heap[P j]? = some (O4 j (f (25 + 2 * j))) := fun j hj => by
      have h := (hr.box j (hal j hj)).2.2
      rw [if_pos (hst j hj)] at h
      exact h
    have b0 := hbx 0 (by decide)
    have b1 := hbx 1 (by decide)
    have b2 := hbx 2 (by decide)
    have b3 := hbx 3 (by decide)
    rw [show 25 + 2 * 0 = 25 from rfl, ex] at b0
    rw [show 25 + 2 * 1 = 27 from rfl, ey] at b1
    rw [show 25 + 2 * 2 = 29 from rfl, ep] at b2
    rw [show 25 + 2 * 3 = 31 from rfl, eq] at b3
    exact hQ f v (P 0) (P 1) (P 2) (P 3) x y ps qs g cp g' cp' ⟨hb, hp 0 (hal 0 (by decide)), hp 1 (hal 1 (by decide)), hp 2 (hal 2 (by decide)), hp 3 (hal 3 (by decide)), b0, b1, b2, b3, ox, oy, op, oq, cx, cy, cps, cqs⟩
  · refine ⟨fun k => a0.tmps.getD k undef, fun _ => 0, by rw [lay_self], (Below.refl _ w).drew, ⟨fun j hj => ?_, fun j hj => ?_, fun i j hi => ?_⟩, fun j _ hj => ?_, fun j hj => ?_, fun j hj => ?_⟩
    · rw [cF, rep_no, Bool.and_false] at hj; cases hj
    · rw [aF, rep_no, Bool.and_false] at hj; cases hj
    · rw [aF, rep_no, Bool.and_false] at hi; cases hi
    · rw [rep_no] at hj; cases hj
    · rw [aF, rep_no, Bool.and_false] at hj; cases hj
    · rw [sF, rep_no, Bool.and_false] at hj; cases hj
set_option maxRecDepth 100000 in
set_option maxHeartbeats 2000000 in
theorem wp_four' {n : Nat} {a b : Tm n} {ss us : List (Int × Tm n)} {sa au : Option Addr} {len cap len' cap' A B : Nat} {v0 v1 v4 v7 v8 v9 v10 v11 v12 v13 v14 v15 v16 v17 v18 v19 v20 v21 v22 v23 v24 v25 v26 v27 v28 v29 v30 v31 v32 v33 v34 v35 v36 v37 v38 v39 v40 v41 v42 v43 v44 v45 v46 v47 v48 v49 v50 v51 v52 v53 v54 v55 v56 v57 v58 v59 v60 v61 v62 v63 v64 v65 v66 v67 v68 v69 v70 v71 v72 v73 v74 v75 v76 v77 v78 v79 v80 v81 v82 v83 v84 v85 v86 v87 v88 v89 v90 v91 v92 v93 v94 v95 v96 v97 v98 v99 v100 v101 v102 v103 v104 v105 v106 v107 v108 v109 : Value} {d : List Deferred} {w : World} {Q : Exit → Act → World → Prop}
    (hA : BoxT w A a.tv) (hB : BoxT w B b.tv) (hTa : IsT w.heap.size w a) (hTb : IsT w.heap.size w b) (hL : IsL w.heap.size w sa len ss) (hL' : IsL w.heap.size w au len' us)
    (wa : ∀ x ∈ code a, x.2.2.2 ≤ 4194304) (wb : ∀ x ∈ code b, x.2.2.2 ≤ 4194304) (hlen : len ≤ 4194304) (hlen' : len' ≤ 4194304) (ws : ∀ p ∈ ss, ∀ x ∈ code p.2, x.2.2.2 ≤ 4194304) (wu : ∀ p ∈ us, ∀ x ∈ code p.2, x.2.2.2 ≤ 4194304)
    (hQ : ∀ (f : Nat → Value) (W : World) (X Y P Q' : Nat) (x y : Tm n) (ps qs : List (Int × Tm n)) (g cp g' cp' : Nat) (u24 u25 u26 u27 u28 u29 u30 u31 : Value), Four a b ss us len len' w W f X Y P Q' x y ps qs g cp g' cp' → Q .normal ⟨#[v0, v1, .slice sa len cap, .slice au len' cap', v4, .pointer (some ⟨A, 0, none⟩), .pointer (some ⟨B, 0, none⟩), v7, v8, v9, v10, .pointer (some ⟨X, 0, none⟩), .pointer (some ⟨Y, 0, none⟩), .pointer (some ⟨P, 0, none⟩), .pointer (some ⟨Q', 0, none⟩), v15, v16, v17, v18, v19, v20, v21, v22, v23, u24, u25, u26, u27, u28, u29, u30, u31, v32, v33, v34, v35, v36, v37, v38, v39, v40, v41, v42, v43, v44, v45, v46, v47, v48, v49, v50, v51, v52, v53, v54, v55, v56, v57, v58, v59, v60, v61, v62, v63, v64, v65, v66, v67, v68, v69, v70, v71, v72, v73, v74, v75, v76, v77, v78, v79, v80, v81, v82, v83, v84, v85, v86, v87, v88, v89, v90, v91, v92, v93, v94, v95, v96, v97, v98, v99, v100, v101, v102, v103, v104, v105, v106, v107, v108, v109], d⟩ W) :
    (Code.region 3 #[{ dst := some 24, op := Op.load 24 (Operand.tmp 5), type := 24, pos := "memory.go:160", after := #[], guard := none }, { dst := some 25, op := Op.call { callee := Callee.value (Operand.func 10), args := #[Operand.tmp 24], argTypes := #[24] }, type := 24, pos := "memory.go:160", after := #[{ on := 0, ground := Ground.data }], guard := none }, { dst := some 26, op := Op.load 24 (Operand.tmp 6), type := 24, pos := "memory.go:160", after := #[], guard := none }, { dst := some 27, op := Op.call { callee := Callee.value (Operand.func 10), args := #[Operand.tmp 26], argTypes := #[24] }, type := 24, pos := "memory.go:160", after := #[{ on := 2, ground := Ground.data }, { on := 1, ground := Ground.chain }], guard := none }, { dst := some 28, op := Op.move (Operand.tmp 2), type := 32, pos := "memory.go:160", after := #[], guard := none }, { dst := some 29, op := Op.call { callee := Callee.value (Operand.func 11), args := #[Operand.tmp 28], argTypes := #[32] }, type := 32, pos := "memory.go:160", after := #[{ on := 4, ground := Ground.data }, { on := 3, ground := Ground.chain }], guard := none }, { dst := some 30, op := Op.move (Operand.tmp 3), type := 32, pos := "memory.go:160", after := #[], guard := none }, { dst := some 31, op := Op.call { callee := Callee.value (Operand.func 11), args := #[Operand.tmp 30], argTypes := #[32] }, type := 32, pos := "memory.go:160", after := #[{ on := 6, ground := Ground.data }, { on := 5, ground := Ground.chain }], guard := none }, { dst := some 11, op := Op.alloc 24, type := 0, pos := "memory.go:160", after := #[], guard := none }, { dst := some 12, op := Op.alloc 24, type := 0, pos := "memory.go:160", after := #[], guard := none }, { dst := some 13, op := Op.alloc 32, type := 0, pos := "memory.go:160", after := #[], guard := none }, { dst := some 14, op := Op.alloc 32, type := 0, pos := "memory.go:160", after := #[], guard := none }, { dst := none, op := Op.store 24 (Operand.tmp 11) (Operand.tmp 25), type := 0, pos := "memory.go:160", after := #[{ on := 8, ground := Ground.data }, { on := 1, ground := Ground.data }, { on := 7, ground := Ground.chain }, { on := 0, ground := Ground.phase }, { on := 1, ground := Ground.phase }, { on := 2, ground := Ground.textOnly Departure.lateStores }, { on := 3, ground := Ground.textOnly Departure.lateStoresUnsure }, { on := 4, ground := Ground.textOnly Departure.lateStores }, { on := 5, ground := Ground.textOnly Departure.lateStoresUnsure }, { on := 6, ground := Ground.textOnly Departure.lateStores }, { on := 7, ground := Ground.textOnly Departure.lateStoresUnsure }, { on := 8, ground := Ground.phase }, { on := 9, ground := Ground.phase }, { on := 10, ground := Ground.phase }, { on := 11, ground := Ground.phase }], guard := none }, { dst := none, op := Op.store 24 (Operand.tmp 12) (Operand.tmp 27), type := 0, pos := "memory.go:160", after := #[{ on := 9, ground := Ground.data }, { on := 3, ground := Ground.data }, { on := 12, ground := Ground.chain }, { on := 0, ground := Ground.phase }, { on := 1, ground := Ground.phase }, { on := 2, ground := Ground.phase }, { on := 3, ground := Ground.phase }, { on := 4, ground := Ground.textOnly Departure.lateStores }, { on := 5, ground := Ground.textOnly Departure.lateStoresUnsure }, { on := 6, ground := Ground.textOnly Departure.lateStores }, { on := 7, ground := Ground.textOnly Departure.lateStoresUnsure }, { on := 8, ground := Ground.phase }, { on := 9, ground := Ground.phase }, { on := 10, ground := Ground.phase }, { on := 11, ground := Ground.phase }, { on := 12, ground := Ground.phase }], guard := none }, { dst := none, op := Op.store 32 (Operand.tmp 13) (Operand.tmp 29), type := 0, pos := "memory.go:160", after := #[{ on := 10, ground := Ground.data }, { on := 5, ground := Ground.data }, { on := 13, ground := Ground.chain }, { on := 0, ground := Ground.phase }, { on := 1, ground := Ground.phase }, { on := 2, ground := Ground.phase }, { on := 3, ground := Ground.phase }, { on := 4, ground := Ground.phase }, { on := 5, ground := Ground.phase }, { on := 6, ground := Ground.textOnly Departure.lateStores }, { on := 7, ground := Ground.textOnly Departure.lateStoresUnsure }, { on := 8, ground := Ground.phase }, { on := 9, ground := Ground.phase }, { on := 10, ground := Ground.phase }, { on := 11, ground := Ground.phase }, { on := 12, ground := Ground.phase }, { on := 13, ground := Ground.phase }], guard := none }, { dst := none, op := Op.store 32 (Operand.tmp 14) (Operand.tmp 31), type := 0, pos := "memory.go:160", after := #[{ on := 11, ground := Ground.data }, { on := 7, ground := Ground.data }, { on := 14, ground := Ground.chain }, { on := 0, ground := Ground.phase }, { on := 1, ground := Ground.phase }, { on := 2, ground := Ground.phase }, { on := 3, ground := Ground.phase }, { on := 4, ground := Ground.phase }, { on := 5, ground := Ground.phase }, { on := 6, ground := Ground.phase }, { on := 7, ground := Ground.phase }, { on := 8, ground := Ground.phase }, { on := 9, ground := Ground.phase }, { on := 10, ground := Ground.phase }, { on := 11, ground := Ground.phase }, { on := 12, ground := Ground.phase }, { on := 13, ground := Ground.phase }, { on := 14, ground := Ground.phase }], guard := none }] true).wp Tryz.prog Q ⟨#[v0, v1, .slice sa len cap, .slice au len' cap', v4, .pointer (some ⟨A, 0, none⟩), .pointer (some ⟨B, 0, none⟩), v7, v8, v9, v10, v11, v12, v13, v14, v15, v16, v17, v18, v19, v20, v21, v22, v23, v24, v25, v26, v27, v28, v29, v30, v31, v32, v33, v34, v35, v36, v37, v38, v39, v40, v41, v42, v43, v44, v45, v46, v47, v48, v49, v50, v51, v52, v53, v54, v55, v56, v57, v58, v59, v60, v61, v62, v63, v64, v65, v66, v67, v68, v69, v70, v71, v72, v73, v74, v75, v76, v77, v78, v79, v80, v81, v82, v83, v84, v85, v86, v87, v88, v89, v90, v91, v92, v93, v94, v95, v96, v97, v98, v99, v100, v101, v102, v103, v104, v105, v106, v107, v108, v109], d⟩ w := by
  refine wp_four a b ss us sa au len cap len' cap' A B _ w Q rfl rfl rfl rfl rfl hA hB hTa hTb hL hL' wa wb hlen hlen' ws wu fun f W X Y P Q' x y ps qs g cp g' cp' h => ?_
  have hq := hQ f W X Y P Q' x y ps qs g cp g' cp' (f 24) (f 25) (f 26) (f 27) (f 28) (f 29) (f 30) (f 31) h
  rw [← h.f11, ← h.f12, ← h.f13, ← h.f14] at hq
  exact hq
end Go.Proofs.YtojefplapklbmaaGreatDoor

