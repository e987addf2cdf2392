import Derived.Test.YtjdanfhbccpnpaaDoorQs
import Derived.Test.YtjdanfhbccpnpaaDoorG
import Derived.Maps.AppendAt
/- Terms that share memory (BlkT, HoldsS), lifted to more storeys; rows of terms that a call owns; the contracts of hornref.V and hornref.Find. -/
namespace Go.Proofs.YtjdanfhbccpnpaaDoor
open Go.RowKit Go.Shelf

/-- One storey more. -/
def Tm.lift : {n : Nat} → Tm n → Tm (n + 1)
  | 0, t => Empty.elim t
  | _ + 1, t => (t.tv, t.kids.map Tm.lift)
/-- Every block of the term's own memory is in S. -/
def BlkT (S : Nat → Prop) : {n : Nat} → Tm n → Prop
  | 0, _ => True
  | _ + 1, t => (t.kids = [] ∨ ∃ b off, t.tv.a = some ⟨b, off, none⟩ ∧ S b) ∧ ∀ u ∈ t.kids, BlkT S u
theorem BlkT.mono {S S' : Nat → Prop} (h : ∀ b, S b → S' b) : ∀ {n : Nat} {t : Tm n}, BlkT S t → BlkT S' t := by
  intro n
  induction n with
  | zero => intro t; exact Empty.elim t
  | succ n ih =>
    intro t ht
    obtain ⟨h1, h2⟩ := ht
    refine ⟨?_, fun u hu => ih (h2 u hu)⟩
    rcases h1 with h1 | ⟨b, off, ha, hb⟩
    · exact .inl h1
    · exact .inr ⟨b, off, ha, h b hb⟩
theorem BlkT.and {S S' : Nat → Prop} : ∀ {n : Nat} {t : Tm n}, BlkT S t → BlkT S' t → BlkT (fun b => S b ∧ S' b) t := by
  intro n
  induction n with
  | zero => intro t; exact Empty.elim t
  | succ n ih =>
    intro t ht ht'
    obtain ⟨h1, h2⟩ := ht
    obtain ⟨k1, k2⟩ := ht'
    refine ⟨?_, fun u hu => ih (h2 u hu) (k2 u hu)⟩
    rcases h1 with h1 | ⟨b, off, ha, hb⟩
    · exact .inl h1
    · rcases k1 with k1 | ⟨b', off', ha', hb'⟩
      · exact .inl k1
      · rw [ha] at ha'; simp at ha'; obtain ⟨rfl, rfl⟩ := ha'
        exact .inr ⟨b, off, ha, hb, hb'⟩
theorem IsT.blk {n₀ : Nat} {W : World} : ∀ {n : Nat} {t : Tm n}, IsT n₀ W t → BlkT (· < n₀) t := by
  intro n
  induction n with
  | zero => intro t; exact Empty.elim t
  | succ n ih =>
    intro t ht
    obtain ⟨_, _, _, h4⟩ := ht
    rcases h4 with h4 | ⟨b, off, ha, hb, hk⟩
    · exact ⟨.inl h4, fun u hu => by rw [h4] at hu; cases hu⟩
    · exact ⟨.inr ⟨b, off, ha, hb⟩, fun u hu => by
        obtain ⟨j, hj⟩ := List.mem_iff_getElem?.1 hu
        exact ih (hk j u hj).2⟩
theorem NewT.blk {lo : Nat} : ∀ {n : Nat} {t : Tm n}, NewT lo t → BlkT (lo ≤ ·) t := by
  intro n
  induction n with
  | zero => intro t; exact Empty.elim t
  | succ n ih =>
    intro t ht
    exact ⟨ht.1, fun u hu => ih (ht.2 u hu)⟩
/-- What is in S lies as it lay: so does the term. -/
theorem IsT.fromS {n₀ : Nat} {S : Nat → Prop} {A B : World} (hs : ∀ b, S b → B.heap[b]? = A.heap[b]?) : ∀ {n : Nat} {t : Tm n}, IsT n₀ A t → BlkT S t → IsT n₀ B t := by
  intro n
  induction n with
  | zero => intro t; exact Empty.elim t
  | succ n ih =>
    intro t ht hn
    obtain ⟨h1, h2, h3, h4⟩ := ht
    obtain ⟨k1, k2⟩ := hn
    rcases h4 with h4 | ⟨b, off, ha, hb, hk⟩
    · exact ⟨h1, h2, h3, .inl h4⟩
    · rcases k1 with k1 | ⟨b', off', ha', hlo⟩
      · exact ⟨h1, h2, h3, .inl k1⟩
      · rw [ha] at ha'
        simp at ha'
        obtain ⟨rfl, rfl⟩ := ha'
        refine ⟨h1, h2, h3, .inr ⟨b, off, ha, hb, fun j u hu => ?_⟩⟩
        obtain ⟨hc, hT⟩ := hk j u hu
        exact ⟨hc.kept (hs b hlo), ih hT (k2 u (List.mem_of_getElem? hu))⟩

theorem lift_tv : ∀ {n : Nat} (t : Tm n), t.lift.tv = t.tv
  | 0, t => Empty.elim t
  | _ + 1, _ => rfl
theorem flatMap_same {α β : Type} {f g : α → List β} : ∀ (l : List α), (∀ u ∈ l, f u = g u) → l.flatMap f = l.flatMap g
  | [], _ => rfl
  | a :: l, h => by rw [List.flatMap_cons, List.flatMap_cons, h a (by simp), flatMap_same l (fun u hu => h u (by simp [hu]))]
theorem lift_code : ∀ {n : Nat} (t : Tm n), code t.lift = code t := by
  intro n
  induction n with
  | zero => intro t; exact Empty.elim t
  | succ n ih =>
    intro t
    obtain ⟨x, kids⟩ := t
    show code (n := n + 1 + 1) ((x, kids.map Tm.lift) : TV × List (Tm (n + 1))) = _
    rw [code_succ, code_succ, List.flatMap_map]
    congr 1
    exact flatMap_same kids (fun u _ => ih u)
theorem lift_isT {n₀ : Nat} {W : World} : ∀ {n : Nat} {t : Tm n}, IsT n₀ W t → n + 1 ≤ 2199023255552 → IsT n₀ W t.lift := by
  intro n
  induction n with
  | zero => intro t; exact Empty.elim t
  | succ n ih =>
    intro t ht hlim
    obtain ⟨x, kids⟩ := t
    obtain ⟨h1, h2, h3, h4⟩ := ht
    simp only [Tm.tv, Tm.kids] at h1 h2 h3 h4
    have hl : x.len = (kids.map Tm.lift).length := by simpa using h1
    rcases h4 with h4 | ⟨b, off, ha, hb, hk⟩
    · exact ⟨hl, ⟨h2.1, h2.2.1, hlim⟩, h3, .inl (by show kids.map Tm.lift = []; rw [h4]; rfl)⟩
    · refine ⟨hl, ⟨h2.1, h2.2.1, hlim⟩, h3, .inr ⟨b, off, ha, hb, fun j u hu => ?_⟩⟩
      have hu' : (kids.map Tm.lift)[j]? = some u := hu
      rw [List.getElem?_map] at hu'
      obtain ⟨v, hv, rfl⟩ := Option.map_eq_some_iff.1 hu'
      obtain ⟨k1, k2⟩ := hk j v hv
      exact ⟨by rw [lift_tv]; exact k1, ih k2 (by omega)⟩
theorem lift_isW {n₀ : Nat} {W : World} {n : Nat} {t : Tm n} (h : IsW n₀ W t) : IsW n₀ W t.lift := fun hl => lift_isT (h (by omega)) hl
theorem lift_blk {S : Nat → Prop} : ∀ {n : Nat} {t : Tm n}, BlkT S t → BlkT S t.lift := by
  intro n
  induction n with
  | zero => intro t; exact Empty.elim t
  | succ n ih =>
    intro t ht
    obtain ⟨x, kids⟩ := t
    obtain ⟨h1, h2⟩ := ht
    refine ⟨?_, fun u hu => ?_⟩
    · rcases h1 with h1 | h1
      · exact .inl (by show kids.map Tm.lift = []; rw [show kids = [] from h1]; rfl)
      · exact .inr h1
    · have hu' : u ∈ kids.map Tm.lift := hu
      obtain ⟨v, hv, rfl⟩ := List.mem_map.1 hu'
      exact ih (h2 v hv)

/-- The value v is a term of the code c, at every number of storeys from D on, its memory in S. -/
def HoldsS (D : Nat) (S : Nat → Prop) (W : World) (v : Value) (c : List Nd) : Prop :=
  ∀ m, D ≤ m → m ≤ 2199023255552 → ∃ t : Tm m, v = t.tv.val ∧ IsT W.heap.size W t ∧ BlkT S t ∧ code t = c
theorem holdsS_of {n : Nat} {t : Tm n} {S : Nat → Prop} {W : World} (hT : IsT W.heap.size W t) (hS : BlkT S t) : HoldsS n S W t.tv.val (code t) := fun m hm hl => by
  obtain ⟨k, rfl⟩ : ∃ k, m = n + k := ⟨m - n, by omega⟩
  clear hm
  induction k with
  | zero => exact ⟨t, rfl, hT, hS, rfl⟩
  | succ k ih =>
    obtain ⟨t', h1, h2, h3, h4⟩ := ih (by omega)
    exact ⟨t'.lift, by rw [lift_tv]; exact h1, lift_isT h2 hl, lift_blk h3, by rw [lift_code]; exact h4⟩
theorem HoldsT.holdsS {D lo : Nat} {W : World} {v : Value} {c : List Nd} (h : HoldsT D lo W v c) : HoldsS D (lo ≤ ·) W v c := fun m hm hl => by
  obtain ⟨t, h1, h2, h3, h4⟩ := h m hm
  exact ⟨t, h1, h2 hl, h3.new.blk, h4⟩
theorem HoldsS.mono {D D' : Nat} {S S' : Nat → Prop} {W : World} {v : Value} {c : List Nd} (h : HoldsS D S W v c) (hD : D ≤ D') (hS : ∀ b, S b → S' b) : HoldsS D' S' W v c := fun m hm hl => by
  obtain ⟨t, h1, h2, h3, h4⟩ := h m (by omega) hl
  exact ⟨t, h1, h2, h3.mono hS, h4⟩
theorem HoldsS.below {D : Nat} {S : Nat → Prop} {A B : World} {v : Value} {c : List Nd} (h : HoldsS D S A v c) (hb : Below A.heap.size A B) : HoldsS D S B v c := fun m hm hl => by
  obtain ⟨t, h1, h2, h3, h4⟩ := h m hm hl
  exact ⟨t, h1, (h2.below hb).mono hb.size, h3, h4⟩
theorem HoldsS.fromS {D : Nat} {S : Nat → Prop} {A B : World} {v : Value} {c : List Nd} (h : HoldsS D S A v c) (hs : ∀ b, S b → b < A.heap.size → B.heap[b]? = A.heap[b]?) (hsz : A.heap.size ≤ B.heap.size) : HoldsS D S B v c := fun m hm hl => by
  obtain ⟨t, h1, h2, h3, h4⟩ := h m hm hl
  exact ⟨t, h1, (h2.fromS (S := fun b => S b ∧ b < A.heap.size) (fun b hb => hs b hb.1 hb.2) (h3.and h2.blk)).mono hsz, h3, h4⟩

set_option maxHeartbeats 400000 in
theorem v_any (N : Int) (w : World) : Calls Tryd.prog 39 #[.int .i64 N] w fun e W' => e = .returned (varV N).val ∧ Below w.heap.size w W' := by
  go_enter Tryd.func39, Tryd.ntmps39
  go_wp2
  exact bodyPost_ret (v := (varV N).val) (by simp [results, Tryd.results39, go_sem, varV, TV.val]) rfl ⟨rfl, (Below.refl _ _).alloc (Nat.le_refl _) _⟩

theorem find_take {c : List (Int × List Nd)} {N : Int} {j : Nat} {p : Int × List Nd} (hj : c[j]? = some p) (h : ∀ i q, c[i]? = some q → i < j → q.1 ≠ N) (hp : p.1 = N) : lookC c N = p.2 := by
  unfold lookC
  have : c.find? (fun p => p.1 == N) = some p := by
    rw [List.find?_eq_some_iff_getElem]
    obtain ⟨hlt, rfl⟩ := List.getElem?_eq_some_iff.1 hj
    refine ⟨by simp [hp], j, hlt, rfl, fun i hi => ?_⟩
    have := h i _ (List.getElem?_eq_getElem (by omega)) hi
    simpa using this
  rw [this]
theorem find_nil {c : List (Int × List Nd)} {N : Int} (h : ∀ q ∈ c, q.1 ≠ N) : lookC c N = [varNd N] := by
  unfold lookC
  rw [List.find?_eq_none.2 (fun q hq => by simpa using h q hq)]
theorem cb_at {n : Nat} {bs : List (Int × Tm n)} {j : Nat} {p : Int × Tm n} (h : bs[j]? = some p) : (cb bs)[j]? = some (p.1, code p.2) := by
  unfold cb; rw [List.getElem?_map, h]; rfl
theorem cb_at' {n : Nat} {bs : List (Int × Tm n)} {j : Nat} {q : Int × List Nd} (h : (cb bs)[j]? = some q) : ∃ p, bs[j]? = some p ∧ q = (p.1, code p.2) := by
  unfold cb at h; rw [List.getElem?_map] at h
  obtain ⟨p, hp, rfl⟩ := Option.map_eq_some_iff.1 h
  exact ⟨p, hp, rfl⟩

/-- What Find answers. -/
def FindSays {n : Nat} (bs : List (Int × Tm n)) (N : Int) (ns : Nat) (w : World) (e : Ending) (W' : World) : Prop :=
  ∃ (x : TV) (f : Bool), e = .returned (.tuple #[x.val, .bool f]) ∧ Below w.heap.size w W' ∧ HoldsS (n + 1) (· < ns) W' x.val (lookC (cb bs) N) ∧ (f = true ↔ ∃ p ∈ bs, p.1 = N)

end Go.Proofs.YtjdanfhbccpnpaaDoor

