import Derived.Test.YtcnoipaoljjelaaGreatDoorMcH
/- A drawn region by what holds at every moment; the slots of a frame that a region writes. -/
namespace Go.Proofs.YtcnoipaoljjelaaGreatDoor
open Go.RowKit Go.Shelf Go.Maps

section
variable {P : Program} {ops : Array Oper} {Q : Exit → Act → World → Prop} {md : Region.Mode}

theorem count_listed {l : List Bool} {i : Nat} (h : l[i]? = some false) : (l.set i true).count false + 1 = l.count false := by
  induction l generalizing i with
  | nil => simp at h
  | cons b l ih =>
    cases i with
    | zero => simp at h; subst h; simp
    | succ i =>
      have := ih (i := i) (by simpa using h)
      cases b <;> simp <;> omega
theorem listed_false {listed : Array Bool} {i : Nat} (h : listed.getD i true = false) : listed.toList[i]? = some false := by
  rw [Array.getElem?_toList]
  cases hk : listed[i]? with
  | none => simp [hk] at h
  | some b => simp [hk] at h; rw [h]
/-- Where nothing is ready all has come up: what an operation waits for stands ahead of it. -/
theorem all_listed (hrank : ∀ i o, ops[i]? = some o → ∀ e ∈ o.after, Region.binds md e = true → e.on < i) {listed : Array Bool} (hs : listed.size = ops.size) (hr : Region.ready md ops listed = []) : ∀ i, i < ops.size → listed.getD i false = true := by
  intro i
  induction i using Nat.strongRecOn with
  | _ i ih =>
    intro hi
    cases hb : listed[i]? with
    | none => rw [Array.getElem?_eq_none_iff] at hb; omega
    | some b =>
      cases b with
      | true => simp [hb]
      | false =>
        have hm : i ∈ Region.ready md ops listed := mem_ready.2 ⟨by simp [hb], ops[i]'hi, Array.getElem?_eq_getElem hi, fun e he hbe => by
          have hlt := hrank i _ (Array.getElem?_eq_getElem hi) e he hbe
          exact ih e.on hlt (by omega)⟩
        rw [hr] at hm
        cases hm
/-- The rule. -/
theorem wpAny_inv (I : Array Bool → Act → World → Prop) (hrank : ∀ i o, ops[i]? = some o → ∀ e ∈ o.after, Region.binds md e = true → e.on < i)
    (hstep : ∀ (listed : Array Bool) (a : Act) (w : World) (i : Nat) (o : Oper), listed.size = ops.size → I listed a w → ops[i]? = some o → listed.getD i true = false → (∀ e ∈ o.after, Region.binds md e = true → listed.getD e.on false = true) →
      ∀ K : Act → World → Prop, (∀ a w, I (listed.setIfInBounds i true) a w → K a w) → if Region.wanted o (yielded ops a.tmps) = true then Oper.wp P o a w K Q else K (a.put o.dst undef) w)
    (hend : ∀ (listed : Array Bool) (a : Act) (w : World), I listed a w → (∀ i, i < ops.size → listed.getD i false = true) → Q .normal a w) :
    ∀ (fuel : Nat) (listed : Array Bool) (a : Act) (w : World), listed.size = ops.size → listed.toList.count false ≤ fuel → I listed a w → wpAny P md ops Q fuel listed a w := by
  intro fuel
  induction fuel with
  | zero =>
    intro listed a w hs hc hI
    have hr : Region.ready md ops listed = [] := by
      cases he : Region.ready md ops listed with
      | nil => rfl
      | cons j r =>
        have hj : j ∈ Region.ready md ops listed := by rw [he]; exact List.mem_cons_self ..
        have h1 := count_listed (listed_false (mem_ready.1 hj).1)
        omega
    exact ⟨hr, hend listed a w hI (all_listed hrank hs hr)⟩
  | succ fuel ih =>
    intro listed a w hs hc hI
    refine ⟨fun hr => hend listed a w hI (all_listed hrank hs hr), fun i hi => ?_⟩
    obtain ⟨h1, o, ho, h2⟩ := mem_ready.1 hi
    refine wpOp_step ho fun K' hK => hstep listed a w i o hs hI ho h1 h2 K' fun a' w' hI' => hK a' w' (ih _ a' w' (by simpa using hs) ?_ hI')
    have h3 := count_listed (listed_false h1)
    rw [Array.toList_setIfInBounds]
    omega
/-- .. of a region as it stands. -/
theorem wp_region_inv (hm : P.follows .mixedOrders = true) (I : Array Bool → Act → World → Prop) (hrank : ∀ i o, ops[i]? = some o → ∀ e ∈ o.after, Region.binds .any e = true → e.on < i)
    (hstep : ∀ (listed : Array Bool) (a : Act) (w : World) (i : Nat) (o : Oper), listed.size = ops.size → I listed a w → ops[i]? = some o → listed.getD i true = false → (∀ e ∈ o.after, Region.binds .any e = true → listed.getD e.on false = true) →
      ∀ K : Act → World → Prop, (∀ a w, I (listed.setIfInBounds i true) a w → K a w) → if Region.wanted o (yielded ops a.tmps) = true then Oper.wp P o a w K Q else K (a.put o.dst undef) w)
    (hend : ∀ (listed : Array Bool) (a : Act) (w : World), I listed a w → (∀ i, i < ops.size → listed.getD i false = true) → Q .normal a w) {id : Nat} {a : Act} {w : World} (h0 : I (Array.replicate ops.size false) a w.drew) : (Code.region id ops true).wp P Q a w :=
  wp_region_any hm (wpAny_inv I hrank hstep hend ops.size _ a _ (by simp) (by simp) h0)
end

/-- One place of a function made anew. -/
def upd {α : Type} (f : Nat → α) (j : Nat) (v : α) : Nat → α := fun i => if i = j then v else f i
@[simp] theorem upd_at {α : Type} (f : Nat → α) (j : Nat) (v : α) : upd f j v j = v := by simp [upd]
theorem upd_off {α : Type} (f : Nat → α) {i j : Nat} (v : α) (h : i ≠ j) : upd f j v i = f i := by simp [upd, h]
def layL (sl : Nat → Bool) (f : Nat → Value) : Nat → List Value → List Value
  | _, [] => []
  | k, v :: l => (match sl k with | true => f k | false => v) :: layL sl f (k + 1) l
/-- The frame's slots with the region's own by f. -/
def lay (sl : Nat → Bool) (t : Array Value) (f : Nat → Value) : Array Value := (layL sl f 0 t.toList).toArray
section
variable (sl : Nat → Bool)
theorem layL_at (f : Nat → Value) : ∀ (l : List Value) (k i : Nat), (layL sl f k l)[i]? = l[i]?.map fun v => match sl (k + i) with | true => f (k + i) | false => v := by
  intro l
  induction l with
  | nil => intro k i; simp [layL]
  | cons v l ih =>
    intro k i
    cases i with
    | zero => simp [layL]
    | succ i =>
      have h := ih (k + 1) i
      rw [show k + 1 + i = k + (i + 1) by omega] at h
      simpa [layL] using h
theorem lay_at (t : Array Value) (f : Nat → Value) (i : Nat) : (lay sl t f)[i]? = t[i]?.map fun v => match sl i with | true => f i | false => v := by
  have h := layL_at sl f t.toList 0 i
  rw [Nat.zero_add] at h
  simpa [lay] using h
theorem lay_slot (t : Array Value) (f : Nat → Value) (i : Nat) (hs : sl i = true) (hi : i < t.size) : (lay sl t f)[i]? = some (f i) := by
  rw [lay_at, Array.getElem?_eq_getElem hi]
  simp [hs]
theorem lay_off (t : Array Value) (f : Nat → Value) (i : Nat) (hs : sl i = false) : (lay sl t f)[i]? = t[i]? := by
  rw [lay_at]
  simp [hs]
theorem lay_put (t : Array Value) (f : Nat → Value) (d : Nat) (v : Value) (hs : sl d = true) : (lay sl t f).setIfInBounds d v = lay sl t (upd f d v) := by
  apply Array.ext_getElem?
  intro i
  rw [Array.getElem?_setIfInBounds, lay_at, lay_at]
  have hsz : (lay sl t f).size = t.size := by
    have : ∀ (l : List Value) (k : Nat), (layL sl f k l).length = l.length := by
      intro l
      induction l with
      | nil => intro k; rfl
      | cons v l ih => intro k; simp [layL, ih]
    simp [lay, this]
  rw [hsz]
  by_cases e : d = i
  · subst e
    rw [if_pos rfl]
    split
    · rename_i h; rw [Array.getElem?_eq_getElem h]; simp [hs]
    · rename_i h; rw [Array.getElem?_eq_none (by omega)]; rfl
  · rw [if_neg e, upd_off _ _ (fun h => e h.symm)]
theorem lay_self (t : Array Value) : lay sl t (fun k => t.getD k undef) = t := by
  apply Array.ext_getElem?
  intro i
  rw [lay_at]
  cases h : t[i]? with
  | none => rfl
  | some v => cases sl i <;> simp [h]
end
def rankB (ops : Array Oper) : Bool := (List.range ops.size).all fun i => (ops.getD i default).after.all fun e => !Region.binds .any e || Nat.blt e.on i
theorem rank_of {ops : Array Oper} (h : rankB ops = true) : ∀ i o, ops[i]? = some o → ∀ e ∈ o.after, Region.binds .any e = true → e.on < i := fun i o ho e he hb => by
  have hi : i < ops.size := (Array.getElem?_eq_some_iff.1 ho).1
  have h1 := List.all_eq_true.1 h i (List.mem_range.2 hi)
  rw [show ops.getD i default = o by simp [ho]] at h1
  have h2 := (Array.all_eq_true_iff_forall_mem.1 h1) e he
  simpa [hb] using h2
theorem flag_set {l : Array Bool} {i : Nat} (hi : i < l.size) (k : Nat) : (l.setIfInBounds i true).getD k false = if k = i then true else l.getD k false := by
  simp only [Array.getD_eq_getD_getElem?, Array.getElem?_setIfInBounds]
  by_cases e : i = k
  · subst e; simp [hi]
  · rw [if_neg e, if_neg (fun h => e h.symm)]
theorem flag_no {l : Array Bool} {i : Nat} (h : l.getD i true = false) : i < l.size ∧ l.getD i false = false := by
  simp only [Array.getD_eq_getD_getElem?] at h ⊢
  cases hk : l[i]? with
  | none => simp [hk] at h
  | some b => simp [hk] at h; subst h; exact ⟨(Array.getElem?_eq_some_iff.1 hk).1, by simp⟩
theorem rep_no (m i : Nat) : (Array.replicate m false).getD i false = false := by
  simp only [Array.getD_eq_getD_getElem?, Array.getElem?_replicate]
  split <;> rfl
/-- Values of slots that hold wherever they have come up. -/
def Pures (pu : Nat → Bool) (ds : Nat → Nat) (F : Nat → Value) (l : Array Bool) (f : Nat → Value) : Prop := ∀ k, pu k = true → l.getD k false = true → f (ds k) = F (ds k)
theorem Pures.take {pu : Nat → Bool} {ds : Nat → Nat} {F : Nat → Value} {l : Array Bool} {f : Nat → Value} (h : Pures pu ds F l f) {i : Nat} (hi : i < l.size) : Pures pu ds F (l.setIfInBounds i true) (upd f (ds i) (F (ds i))) := fun k hp hk => by
  by_cases e : ds k = ds i
  · rw [e, upd_at]
  · rw [upd_off _ _ e]
    rw [flag_set hi] at hk
    split at hk
    · rename_i h'; exact (e (by rw [h'])).elim
    · exact h k hp hk
theorem Pures.other {pu : Nat → Bool} {ds : Nat → Nat} {F : Nat → Value} {l : Array Bool} {f : Nat → Value} (h : Pures pu ds F l f) {i s : Nat} (hi : i < l.size) (hpi : pu i = false) (hs : ∀ k, pu k = true → ds k ≠ s) (v : Value) : Pures pu ds F (l.setIfInBounds i true) (upd f s v) := fun k hp hk => by
  rw [upd_off _ _ (hs k hp)]
  rw [flag_set hi] at hk
  split at hk
  · rename_i h'; subst h'; rw [hpi] at hp; cases hp
  · exact h k hp hk
theorem Pures.same {pu : Nat → Bool} {ds : Nat → Nat} {F : Nat → Value} {l : Array Bool} {f : Nat → Value} (h : Pures pu ds F l f) {i : Nat} (hi : i < l.size) (hpi : pu i = false) : Pures pu ds F (l.setIfInBounds i true) f := fun k hp hk => by
  rw [flag_set hi] at hk
  split at hk
  · rename_i h'; subst h'; rw [hpi] at hp; cases hp
  · exact h k hp hk
theorem Pures.none (pu : Nat → Bool) (ds : Nat → Nat) (F : Nat → Value) (m : Nat) (f : Nat → Value) : Pures pu ds F (Array.replicate m false) f := fun k _ hk => by rw [rep_no] at hk; cases hk
end Go.Proofs.YtcnoipaoljjelaaGreatDoor

