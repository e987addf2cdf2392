import Derived.Test.YtcdgmjpgmiehcaaPs
import Derived.Test.YtcdgmjpgmiehcaaFs
import Derived.Maps.AppendAt
import Derived.Test.YtcdgmjpgmiehcaaHcs
import Derived.Deep.QuietTactic
import Derived.BigQuiet
/- Terms that share memory (BlkT, HoldsS), lifted to more storeys; rows of terms that a call owns; the contracts of hornref.V and hornref.Find. -/
namespace Go.Proofs.Ytcdgmjpgmiehcaa
open Go.RowKit Go.Shelf

/-- One storey more. -/
def Tm.lift : {n : Nat} → Tm n → Tm (n + 1)
  | 0, t => Empty.elim t
  | _ + 1, t => (t.tv, t.kids.map Tm.lift)
/-- Every block of the term's own memory is in S. -/
def BlkT (S : Nat → Prop) : {n : Nat} → Tm n → Prop
  | 0, _ => True
  | _ + 1, t => (t.kids = [] ∨ ∃ b off, t.tv.a = some ⟨b, off, none⟩ ∧ S b) ∧ ∀ u ∈ t.kids, BlkT S u
theorem BlkT.mono {S S' : Nat → Prop} (h : ∀ b, S b → S' b) : ∀ {n : Nat} {t : Tm n}, BlkT S t → BlkT S' t := by
  intro n
  induction n with
  | zero => intro t; exact Empty.elim t
  | succ n ih =>
    intro t ht
    obtain ⟨h1, h2⟩ := ht
    refine ⟨?_, fun u hu => ih (h2 u hu)⟩
    rcases h1 with h1 | ⟨b, off, ha, hb⟩
    · exact .inl h1
    · exact .inr ⟨b, off, ha, h b hb⟩
theorem BlkT.and {S S' : Nat → Prop} : ∀ {n : Nat} {t : Tm n}, BlkT S t → BlkT S' t → BlkT (fun b => S b ∧ S' b) t := by
  intro n
  induction n with
  | zero => intro t; exact Empty.elim t
  | succ n ih =>
    intro t ht ht'
    obtain ⟨h1, h2⟩ := ht
    obtain ⟨k1, k2⟩ := ht'
    refine ⟨?_, fun u hu => ih (h2 u hu) (k2 u hu)⟩
    rcases h1 with h1 | ⟨b, off, ha, hb⟩
    · exact .inl h1
    · rcases k1 with k1 | ⟨b', off', ha', hb'⟩
      · exact .inl k1
      · rw [ha] at ha'; simp at ha'; obtain ⟨rfl, rfl⟩ := ha'
        exact .inr ⟨b, off, ha, hb, hb'⟩
theorem IsT.blk {n₀ : Nat} {W : World} : ∀ {n : Nat} {t : Tm n}, IsT n₀ W t → BlkT (· < n₀) t := by
  intro n
  induction n with
  | zero => intro t; exact Empty.elim t
  | succ n ih =>
    intro t ht
    obtain ⟨_, _, _, h4⟩ := ht
    rcases h4 with h4 | ⟨b, off, ha, hb, hk⟩
    · exact ⟨.inl h4, fun u hu => by rw [h4] at hu; cases hu⟩
    · exact ⟨.inr ⟨b, off, ha, hb⟩, fun u hu => by
        obtain ⟨j, hj⟩ := List.mem_iff_getElem?.1 hu
        exact ih (hk j u hj).2⟩
theorem NewT.blk {lo : Nat} : ∀ {n : Nat} {t : Tm n}, NewT lo t → BlkT (lo ≤ ·) t := by
  intro n
  induction n with
  | zero => intro t; exact Empty.elim t
  | succ n ih =>
    intro t ht
    exact ⟨ht.1, fun u hu => ih (ht.2 u hu)⟩
/-- What is in S lies as it lay: so does the term. -/
theorem IsT.fromS {n₀ : Nat} {S : Nat → Prop} {A B : World} (hs : ∀ b, S b → B.heap[b]? = A.heap[b]?) : ∀ {n : Nat} {t : Tm n}, IsT n₀ A t → BlkT S t → IsT n₀ B t := by
  intro n
  induction n with
  | zero => intro t; exact Empty.elim t
  | succ n ih =>
    intro t ht hn
    obtain ⟨h1, h2, h3, h4⟩ := ht
    obtain ⟨k1, k2⟩ := hn
    rcases h4 with h4 | ⟨b, off, ha, hb, hk⟩
    · exact ⟨h1, h2, h3, .inl h4⟩
    · rcases k1 with k1 | ⟨b', off', ha', hlo⟩
      · exact ⟨h1, h2, h3, .inl k1⟩
      · rw [ha] at ha'
        simp at ha'
        obtain ⟨rfl, rfl⟩ := ha'
        refine ⟨h1, h2, h3, .inr ⟨b, off, ha, hb, fun j u hu => ?_⟩⟩
        obtain ⟨hc, hT⟩ := hk j u hu
        exact ⟨hc.kept (hs b hlo), ih hT (k2 u (List.mem_of_getElem? hu))⟩

theorem lift_tv : ∀ {n : Nat} (t : Tm n), t.lift.tv = t.tv
  | 0, t => Empty.elim t
  | _ + 1, _ => rfl
theorem flatMap_same {α β : Type} {f g : α → List β} : ∀ (l : List α), (∀ u ∈ l, f u = g u) → l.flatMap f = l.flatMap g
  | [], _ => rfl
  | a :: l, h => by rw [List.flatMap_cons, List.flatMap_cons, h a (by simp), flatMap_same l (fun u hu => h u (by simp [hu]))]
theorem lift_code : ∀ {n : Nat} (t : Tm n), code t.lift = code t := by
  intro n
  induction n with
  | zero => intro t; exact Empty.elim t
  | succ n ih =>
    intro t
    obtain ⟨x, kids⟩ := t
    show code (n := n + 1 + 1) ((x, kids.map Tm.lift) : TV × List (Tm (n + 1))) = _
    rw [code_succ, code_succ, List.flatMap_map]
    congr 1
    exact flatMap_same kids (fun u _ => ih u)
theorem lift_isT {n₀ : Nat} {W : World} : ∀ {n : Nat} {t : Tm n}, IsT n₀ W t → n + 1 ≤ 2199023255552 → IsT n₀ W t.lift := by
  intro n
  induction n with
  | zero => intro t; exact Empty.elim t
  | succ n ih =>
    intro t ht hlim
    obtain ⟨x, kids⟩ := t
    obtain ⟨h1, h2, h3, h4⟩ := ht
    simp only [Tm.tv, Tm.kids] at h1 h2 h3 h4
    have hl : x.len = (kids.map Tm.lift).length := by simpa using h1
    rcases h4 with h4 | ⟨b, off, ha, hb, hk⟩
    · exact ⟨hl, ⟨h2.1, h2.2.1, hlim⟩, h3, .inl (by show kids.map Tm.lift = []; rw [h4]; rfl)⟩
    · refine ⟨hl, ⟨h2.1, h2.2.1, hlim⟩, h3, .inr ⟨b, off, ha, hb, fun j u hu => ?_⟩⟩
      have hu' : (kids.map Tm.lift)[j]? = some u := hu
      rw [List.getElem?_map] at hu'
      obtain ⟨v, hv, rfl⟩ := Option.map_eq_some_iff.1 hu'
      obtain ⟨k1, k2⟩ := hk j v hv
      exact ⟨by rw [lift_tv]; exact k1, ih k2 (by omega)⟩
theorem lift_isW {n₀ : Nat} {W : World} {n : Nat} {t : Tm n} (h : IsW n₀ W t) : IsW n₀ W t.lift := fun hl => lift_isT (h (by omega)) hl
theorem lift_blk {S : Nat → Prop} : ∀ {n : Nat} {t : Tm n}, BlkT S t → BlkT S t.lift := by
  intro n
  induction n with
  | zero => intro t; exact Empty.elim t
  | succ n ih =>
    intro t ht
    obtain ⟨x, kids⟩ := t
    obtain ⟨h1, h2⟩ := ht
    refine ⟨?_, fun u hu => ?_⟩
    · rcases h1 with h1 | h1
      · exact .inl (by show kids.map Tm.lift = []; rw [show kids = [] from h1]; rfl)
      · exact .inr h1
    · have hu' : u ∈ kids.map Tm.lift := hu
      obtain ⟨v, hv, rfl⟩ := List.mem_map.1 hu'
      exact ih (h2 v hv)

/-- The value v is a term of the code c, at every number of storeys from D on, its memory in S. -/
def HoldsS (D : Nat) (S : Nat → Prop) (W : World) (v : Value) (c : List Nd) : Prop :=
  ∀ m, D ≤ m → m ≤ 2199023255552 → ∃ t : Tm m, v = t.tv.val ∧ IsT W.heap.size W t ∧ BlkT S t ∧ code t = c
theorem holdsS_of {n : Nat} {t : Tm n} {S : Nat → Prop} {W : World} (hT : IsT W.heap.size W t) (hS : BlkT S t) : HoldsS n S W t.tv.val (code t) := fun m hm hl => by
  obtain ⟨k, rfl⟩ : ∃ k, m = n + k := ⟨m - n, by omega⟩
  clear hm
  induction k with
  | zero => exact ⟨t, rfl, hT, hS, rfl⟩
  | succ k ih =>
    obtain ⟨t', h1, h2, h3, h4⟩ := ih (by omega)
    exact ⟨t'.lift, by rw [lift_tv]; exact h1, lift_isT h2 hl, lift_blk h3, by rw [lift_code]; exact h4⟩
theorem HoldsT.holdsS {D lo : Nat} {W : World} {v : Value} {c : List Nd} (h : HoldsT D lo W v c) : HoldsS D (lo ≤ ·) W v c := fun m hm hl => by
  obtain ⟨t, h1, h2, h3, h4⟩ := h m hm
  exact ⟨t, h1, h2 hl, h3.new.blk, h4⟩
theorem HoldsS.mono {D D' : Nat} {S S' : Nat → Prop} {W : World} {v : Value} {c : List Nd} (h : HoldsS D S W v c) (hD : D ≤ D') (hS : ∀ b, S b → S' b) : HoldsS D' S' W v c := fun m hm hl => by
  obtain ⟨t, h1, h2, h3, h4⟩ := h m (by omega) hl
  exact ⟨t, h1, h2, h3.mono hS, h4⟩
theorem HoldsS.below {D : Nat} {S : Nat → Prop} {A B : World} {v : Value} {c : List Nd} (h : HoldsS D S A v c) (hb : Below A.heap.size A B) : HoldsS D S B v c := fun m hm hl => by
  obtain ⟨t, h1, h2, h3, h4⟩ := h m hm hl
  exact ⟨t, h1, (h2.below hb).mono hb.size, h3, h4⟩
theorem HoldsS.fromS {D : Nat} {S : Nat → Prop} {A B : World} {v : Value} {c : List Nd} (h : HoldsS D S A v c) (hs : ∀ b, S b → b < A.heap.size → B.heap[b]? = A.heap[b]?) (hsz : A.heap.size ≤ B.heap.size) : HoldsS D S B v c := fun m hm hl => by
  obtain ⟨t, h1, h2, h3, h4⟩ := h m hm hl
  exact ⟨t, h1, (h2.fromS (S := fun b => S b ∧ b < A.heap.size) (fun b hb => hs b hb.1 hb.2) (h3.and h2.blk)).mono hsz, h3, h4⟩

theorem find_take {c : List (Int × List Nd)} {N : Int} {j : Nat} {p : Int × List Nd} (hj : c[j]? = some p) (h : ∀ i q, c[i]? = some q → i < j → q.1 ≠ N) (hp : p.1 = N) : lookC c N = p.2 := by
  unfold lookC
  have : c.find? (fun p => p.1 == N) = some p := by
    rw [List.find?_eq_some_iff_getElem]
    obtain ⟨hlt, rfl⟩ := List.getElem?_eq_some_iff.1 hj
    refine ⟨by simp [hp], j, hlt, rfl, fun i hi => ?_⟩
    have := h i _ (List.getElem?_eq_getElem (by omega)) hi
    simpa using this
  rw [this]
theorem find_nil {c : List (Int × List Nd)} {N : Int} (h : ∀ q ∈ c, q.1 ≠ N) : lookC c N = [varNd N] := by
  unfold lookC
  rw [List.find?_eq_none.2 (fun q hq => by simpa using h q hq)]
theorem cb_at {n : Nat} {bs : List (Int × Tm n)} {j : Nat} {p : Int × Tm n} (h : bs[j]? = some p) : (cb bs)[j]? = some (p.1, code p.2) := by
  unfold cb; rw [List.getElem?_map, h]; rfl
theorem cb_at' {n : Nat} {bs : List (Int × Tm n)} {j : Nat} {q : Int × List Nd} (h : (cb bs)[j]? = some q) : ∃ p, bs[j]? = some p ∧ q = (p.1, code p.2) := by
  unfold cb at h; rw [List.getElem?_map] at h
  obtain ⟨p, hp, rfl⟩ := Option.map_eq_some_iff.1 h
  exact ⟨p, hp, rfl⟩

/-- What Find answers. -/
def FindSays {n : Nat} (bs : List (Int × Tm n)) (N : Int) (ns : Nat) (w : World) (e : Ending) (W' : World) : Prop :=
  ∃ (x : TV) (f : Bool), e = .returned (.tuple #[x.val, .bool f]) ∧ Below w.heap.size w W' ∧ HoldsS (n + 1) (· < ns) W' x.val (lookC (cb bs) N) ∧ (f = true ↔ ∃ p ∈ bs, p.1 = N)

end Go.Proofs.Ytcdgmjpgmiehcaa

/- The contract of hornref.Apply. -/
namespace Go.Proofs.Ytcdgmjpgmiehcaa
open Go.RowKit Go.Shelf

def TV.row (x : TV) : List Value := [.int .i64 x.k, .int .i64 x.N, .string x.s, .slice x.a x.len x.cap]
theorem row_at : ∀ (l : List TV) (j : Nat) (x : TV), l[j]? = some x → (l.flatMap TV.row)[j * 4]? = some (.int .i64 x.k) ∧ (l.flatMap TV.row)[j * 4 + 1]? = some (.int .i64 x.N) ∧ (l.flatMap TV.row)[j * 4 + 2]? = some (.string x.s) ∧ (l.flatMap TV.row)[j * 4 + 3]? = some (.slice x.a x.len x.cap)
  | [], j, x, h => by simp at h
  | y :: l, 0, x, h => by simp at h; subst h; simp [TV.row]
  | y :: l, j + 1, x, h => by
    have ih := row_at l j x (by simpa using h)
    have hs : ∀ q, ((y :: l).flatMap TV.row)[q + 4]? = (l.flatMap TV.row)[q]? := fun q => by
      rw [List.flatMap_cons, List.getElem?_append_right (by simp [TV.row])]
      simp [TV.row]
    refine ⟨?_, ?_, ?_, ?_⟩
    · rw [show (j + 1) * 4 = j * 4 + 4 by omega, hs]; exact ih.1
    · rw [show (j + 1) * 4 + 1 = j * 4 + 1 + 4 by omega, hs]; exact ih.2.1
    · rw [show (j + 1) * 4 + 2 = j * 4 + 2 + 4 by omega, hs]; exact ih.2.2.1
    · rw [show (j + 1) * 4 + 3 = j * 4 + 3 + 4 by omega, hs]; exact ih.2.2.2
theorem row_len (l : List TV) : (l.flatMap TV.row).length = l.length * 4 := by
  induction l with
  | nil => rfl
  | cons x l ih => rw [List.flatMap_cons, List.length_append, ih]; simp [TV.row]; omega

/-- A row of terms that a call owns: the value, and each term's cells. -/
theorem owns_cells {W : World} {base : Nat} {v : Value} {l : List TV} (h : W.ownsRow base 24 4 v l.length (l.flatMap TV.row)) :
    (v = .slice none 0 0 ∧ l = []) ∨ ∃ g cap, v = .slice (some ⟨g, 0, none⟩) l.length cap ∧ base ≤ g ∧ g < W.heap.size ∧ ∀ j x, l[j]? = some x → cellsAt W g (j * 4) x := by
  obtain ⟨_, h2⟩ := h
  rcases h2 with ⟨hv, hn⟩ | ⟨g, cap, cur, hv, hg, hb, hnc, _, hcs, htk⟩
  · exact .inl ⟨hv, List.length_eq_zero_iff.1 hn⟩
  · refine .inr ⟨g, cap, hv, hg, (Array.getElem?_eq_some_iff.1 hb).1, fun j x hx => ?_⟩
    have hj := (List.getElem?_eq_some_iff.1 hx).1
    have hc : ∀ q u, (l.flatMap TV.row)[q]? = some u → W.cell? ⟨g, q, none⟩ = some u := fun q u hq => by
      rw [← htk, List.getElem?_take] at hq
      split at hq
      · simp [World.cell?, hb]
        simpa using hq
      · cases hq
    obtain ⟨r0, r1, r2, r3⟩ := row_at l j x hx
    exact ⟨hc _ _ r0, hc _ _ r1, hc _ _ r2, hc _ _ r3⟩
theorem owns_below {W W' : World} {base : Nat} {e : TypeId} {sz : Nat} {v : Value} {n : Nat} {xs : List Value} (h : W.ownsRow base e sz v n xs) (hb : ∀ g, v.ownBlock = some g → W'.heap[g]? = W.heap[g]?) : W'.ownsRow base e sz v n xs := by
  obtain ⟨h1, h2⟩ := h
  refine ⟨h1, ?_⟩
  rcases h2 with h2 | ⟨g, cap, cur, hv, hg, hbk, r⟩
  · exact .inl h2
  · subst hv
    exact .inr ⟨g, cap, cur, rfl, hg, (hb g rfl).trans hbk, r⟩
theorem owns_lt {W : World} {base : Nat} {e : TypeId} {sz : Nat} {v : Value} {n : Nat} {xs : List Value} (h : W.ownsRow base e sz v n xs) {g : Nat} (hg : v.ownBlock = some g) : base ≤ g ∧ g < W.heap.size := by
  obtain ⟨h1, h2⟩ := h
  rcases h2 with ⟨hv, _⟩ | ⟨g', cap, cur, hv, hg', hbk, r⟩
  · subst hv; simp [Value.ownBlock] at hg
  · subst hv
    simp [Value.ownBlock] at hg
    subst hg
    exact ⟨hg', (Array.getElem?_eq_some_iff.1 hbk).1⟩

/-- Terms that were made one by one, and whose cells a call keeps in a row of its own: 'v' the row, 'c' their codes. -/
structure Made (D : Nat) (S : Nat → Prop) (base : Nat) (W : World) (v : Value) (l : List TV) (c : List Nd) : Prop where
  owns : W.ownsRow base 24 4 v l.length (l.flatMap TV.row)
  kids : ∀ M, D ≤ M → M ≤ 2199023255552 → ∃ ks : List (Tm M), ks.map Tm.tv = l ∧ (∀ u ∈ ks, IsT W.heap.size W u ∧ BlkT (fun b => v.ownBlock ≠ some b ∧ S b) u) ∧ ks.flatMap code = c
theorem Made.zero (D : Nat) (S : Nat → Prop) (base : Nat) (W : World) : Made D S base W (.slice none 0 0) [] [] :=
  ⟨⟨rfl, .inl ⟨rfl, rfl⟩⟩, fun _ _ _ => ⟨[], rfl, (fun u hu => by cases hu), rfl⟩⟩
/-- One more, behind an append. -/
theorem Made.next {D base : Nat} {S : Nat → Prop} {W W5 w' : World} {v v' : Value} {l : List TV} {c c' : List Nd} {x : TV} (h : Made D S base W v l c) (hb : Below W.heap.size W W5) (hx : HoldsS D (fun b => S b ∧ v.ownBlock ≠ some b) W5 x.val c')
    (hown : w'.ownsRow base 24 4 v' (l.length + 1) (l.flatMap TV.row ++ x.row)) (hg : (W5.alloc (.cells #[.int .i64 x.k, .int .i64 x.N, .string x.s, .slice x.a x.len x.cap] 24)).grownBy w' v.ownBlock)
    (hbk : v'.ownBlock = v.ownBlock ∨ v'.ownBlock = some (W5.heap.size + 1)) : Made D S base w' v' (l ++ [x]) (c ++ c') := by
  refine ⟨by simpa [List.flatMap_append] using hown, fun M hM hlim => ?_⟩
  obtain ⟨ks, k1, k2, k3⟩ := h.kids M hM hlim
  obtain ⟨u, hu, hT, hS, hc⟩ := hx M hM hlim
  have hux : u.tv = x := by
    simp only [TV.val, Value.agg.injEq] at hu
    simp at hu
    obtain ⟨e1, e2, e3, e4, e5, e6⟩ := hu
    cases hy : u.tv; cases x; simp_all
  have hsz : W5.heap.size + 1 ≤ w'.heap.size := by have := hg.size; simpa using this
  have hsame : ∀ b, b < W5.heap.size → v.ownBlock ≠ some b → w'.heap[b]? = W5.heap[b]? := fun b hb1 hne =>
    (hg.block b (by simp; omega) (fun e => hne e.symm)).trans (Below.heap_alloc _ _ _ hb1)
  have key : ∀ z : Tm M, IsT W5.heap.size W5 z → BlkT (fun b => v.ownBlock ≠ some b ∧ S b) z → IsT w'.heap.size w' z ∧ BlkT (fun b => v'.ownBlock ≠ some b ∧ S b) z := fun z hz hzS => by
    have hz2 := hzS.and hz.blk
    refine ⟨(hz.fromS (fun b hb' => hsame b hb'.2 hb'.1.1) hz2).mono (by omega), hz2.mono fun b hb' => ⟨?_, hb'.1.2⟩⟩
    rcases hbk with e | e
    · rw [e]; exact hb'.1.1
    · rw [e]; intro e'; simp at e'; have := hb'.2; omega
  refine ⟨ks ++ [u], by simp [k1, hux], fun z hz => ?_, by simp [k3, hc]⟩
  rcases List.mem_append.1 hz with hz | hz
  · obtain ⟨z1, z2⟩ := k2 z hz
    exact key z ((z1.below hb).mono hb.size) z2
  · simp at hz
    subst hz
    exact key z hT (hS.mono fun b h => ⟨h.2, h.1⟩)
end Go.Proofs.Ytcdgmjpgmiehcaa

/- The contracts of term.checkAll and term.Compare: the first answers 0 where all that it is handed are terms, else 2; the second the order of two terms. -/
namespace Go.Proofs.Ytcdgmjpgmiehcaa
open Go.RowKit Go.Shelf

/-- What checkAll answers. -/
def chkL {n : Nat} (ts : List (Tm n)) : Int := if ts.all okT then 0 else 2
theorem chkL_yes {n : Nat} {ts : List (Tm n)} (h : ts.all okT = true) : chkL ts = 0 := if_pos h
theorem chkL_no {n : Nat} {ts : List (Tm n)} (h : ts.all okT = false) : chkL ts = 2 := if_neg (by simp [h])
theorem chk_zero {n : Nat} {t : Tm n} : chk t = 0 ↔ okT t = true := by
  unfold chk; split <;> simp_all
theorem all_no {n : Nat} {ts : List (Tm n)} {j : Nat} {u : Tm n} (h : ts[j]? = some u) (hu : okT u = false) : ts.all okT = false := by
  rw [List.all_eq_false]
  exact ⟨u, List.mem_of_getElem? h, by simp [hu]⟩

/-- Two terms, one behind the other in a new block. -/
theorem pair_lies {n : Nat} {x y : Tm n} {w : World} (hx : IsT w.heap.size w x) (hy : IsT w.heap.size w y) (W : World) (hb : Below w.heap.size w W) :
    let W' := W.alloc (.cells #[.int .i64 x.tv.k, .int .i64 x.tv.N, .string x.tv.s, .slice x.tv.a x.tv.len x.tv.cap, .int .i64 y.tv.k, .int .i64 y.tv.N, .string y.tv.s, .slice y.tv.a y.tv.len y.tv.cap] 24)
    ([x, y] : List (Tm n)) = [] ∨ ∃ b off, some (⟨W.heap.size, 0, none⟩ : Addr) = some ⟨b, off, none⟩ ∧ b < W'.heap.size ∧ ∀ j u, ([x, y] : List (Tm n))[j]? = some u → cellsAt W' b (off + j * 4) u.tv ∧ IsT W'.heap.size W' u := by
  intro W'
  have hb' : Below w.heap.size w W' := hb.alloc hb.size _
  have hsz : W'.heap.size = W.heap.size + 1 := by simp [W']
  have hle : w.heap.size ≤ W'.heap.size := hb'.size
  refine .inr ⟨W.heap.size, 0, rfl, by omega, fun j u hu => ?_⟩
  match j, hu with
  | 0, hu =>
    simp at hu; subst hu
    exact ⟨⟨by simp [W'], by simp [W'], by simp [W'], by simp [W']⟩, (hx.below hb').mono hle⟩
  | 1, hu =>
    simp at hu; subst hu
    exact ⟨⟨by simp [W'], by simp [W'], by simp [W'], by simp [W']⟩, (hy.below hb').mono hle⟩
  | j + 2, hu => simp at hu

/-- Two boxes and a pair of terms laid, and a callee that keeps what lay: what the boxes hold behind it. -/
theorem boxes_kept {x y : TV} {w W2 : World} {o : Obj} (hb : Below (((w.alloc (.cells #[.int .i64 x.k, .int .i64 x.N, .string x.s, .slice x.a x.len x.cap] 24)).alloc (.cells #[.int .i64 y.k, .int .i64 y.N, .string y.s, .slice y.a y.len y.cap] 24)).alloc o).heap.size (((w.alloc (.cells #[.int .i64 x.k, .int .i64 x.N, .string x.s, .slice x.a x.len x.cap] 24)).alloc (.cells #[.int .i64 y.k, .int .i64 y.N, .string y.s, .slice y.a y.len y.cap] 24)).alloc o) W2) :
    Below w.heap.size w W2 ∧ BoxT W2 w.heap.size x ∧ BoxT W2 (w.heap.size + 1) y := by
  have hs2 : (((w.alloc (.cells #[.int .i64 x.k, .int .i64 x.N, .string x.s, .slice x.a x.len x.cap] 24)).alloc (.cells #[.int .i64 y.k, .int .i64 y.N, .string y.s, .slice y.a y.len y.cap] 24)).alloc o).heap.size = w.heap.size + 3 := by simp
  rw [hs2] at hb
  have b1 := ((BoxT.new w x).alloc (.cells #[.int .i64 y.k, .int .i64 y.N, .string y.s, .slice y.a y.len y.cap] 24)).alloc o
  have b2 := (BoxT.new (w.alloc (.cells #[.int .i64 x.k, .int .i64 x.N, .string x.s, .slice x.a x.len x.cap] 24)) y).alloc o
  rw [World.size_alloc] at b2
  exact ⟨((((Below.refl _ w).alloc (Nat.le_refl _) _).alloc (by simp) _).alloc (by simp; omega) _).trans (hb.mono (by omega)), (hb.block _ (by omega)).trans b1, (hb.block _ (by omega)).trans b2⟩

end Go.Proofs.Ytcdgmjpgmiehcaa

/- The contracts of term.isRising and term.checkBinds. -/
namespace Go.Proofs.Ytcdgmjpgmiehcaa
open Go.RowKit Go.Shelf

/-- A substitution: numbers of variables, rising. -/
def Subst {n : Nat} (bs : List (Int × Tm n)) : Prop := (∀ p ∈ bs, 0 ≤ p.1 ∧ p.1 ≤ 1099511627776) ∧ Rises bs

/-- What isRising answers. -/
def RiseSays {n : Nat} (bs : List (Int × Tm n)) (e : Ending) : Prop := ∃ f : Bool, e = .returned (.bool f) ∧ (f = true ↔ Subst bs)
theorem rise_no {n : Nat} {bs : List (Int × Tm n)} (h : ¬ Subst bs) : RiseSays bs (.returned (.bool false)) := ⟨false, rfl, (fun h => by cases h), fun k => (h k).elim⟩
theorem rise_yes {n : Nat} {bs : List (Int × Tm n)} (h : Subst bs) : RiseSays bs (.returned (.bool true)) := ⟨true, rfl, fun _ => h, fun _ => rfl⟩
theorem subst_take_succ {n : Nat} {bs : List (Int × Tm n)} {j : Nat} {p : Int × Tm n} (hp : bs[j]? = some p) (h : Subst (bs.take j)) (h0 : 0 ≤ p.1) (h1 : p.1 ≤ 1099511627776) (hl : ∀ q, 0 < j → bs[j - 1]? = some q → q.1 < p.1) : Subst (bs.take (j + 1)) := by
  obtain ⟨hj, rfl⟩ := List.getElem?_eq_some_iff.1 hp
  have ht : bs.take (j + 1) = bs.take j ++ [bs[j]] := List.take_succ_eq_append_getElem hj
  have hlen : (bs.take j).length = j := by simp; omega
  refine ⟨fun q hq => ?_, fun i k q z hi hk hik => ?_⟩
  · rw [ht, List.mem_append] at hq
    rcases hq with hq | hq
    · exact h.1 q hq
    · simp at hq; subst hq; exact ⟨h0, h1⟩
  · rw [ht] at hi hk
    by_cases hkj : k < j
    · rw [List.getElem?_append_left (by omega)] at hi hk
      exact h.2 i k q z hi hk hik
    · rw [List.getElem?_append_right (by omega), hlen] at hk
      have hk0 : k - j = 0 := by
        by_cases e : k - j = 0
        · exact e
        · rw [List.getElem?_eq_none (by simp; omega)] at hk; cases hk
      rw [hk0] at hk
      simp at hk
      subst hk
      have hij : i < j := by omega
      rw [List.getElem?_append_left (by omega)] at hi
      rw [List.getElem?_take] at hi
      simp only [hij, if_true] at hi
      have hj1 : bs[j - 1]? = some (bs[j - 1]'(by omega)) := List.getElem?_eq_getElem (by omega)
      have hlast := hl _ (by omega) hj1
      by_cases e : i = j - 1
      · subst e; rw [hj1] at hi; cases hi; exact hlast
      · have hh := h.2 i (j - 1) q (bs[j - 1]'(by omega)) (by rw [List.getElem?_take]; simp only [hij, if_true]; exact hi) (by rw [List.getElem?_take]; simp only [show j - 1 < j by omega, if_true]; exact hj1) (by omega)
        omega

set_option maxRecDepth 100000 in
set_option maxHeartbeats 1000000 in
theorem isRising_any {n : Nat} (bs : List (Int × Tm n)) (a : Option Addr) (len cap : Nat) (w : World) (hl : IsL w.heap.size w a len bs) :
    Calls Try.prog 63 #[.slice a len cap] w fun e W' => RiseSays bs e ∧ Below w.heap.size w W' := by
  have h2 := hl.2.1
  have h1 := hl.1
  have hl1 : len ≤ bs.length := by omega
  have hl2 : bs.length ≤ len := by omega
  clear h1
  have HL := hide hl
  clear hl
  go_enter Try.func63, Try.ntmps63
  go_wp2_with fail
  go_loopw [7] (fun i wr => ∃ j : Nat, j ≤ len ∧ i = .int .i64 j ∧ Below w.heap.size w wr ∧ Subst (bs.take j)) (fun i _ => len - (intOf i).toNat)
  case atStart => exact ⟨0, Nat.zero_le _, rfl, Below.refl _ _, by simp [Subst, Rises]⟩
  case round =>
    obtain ⟨j, hj, rfl, hb, hs⟩ := hrel
    have HS := hide hs
    clear hs
    by_cases hlt : j < len
    · obtain ⟨V, u, b, off, hu, rfl, hbk, hT, c0, c1, c2, c3, c4⟩ := bind_at (unhide HL) hb hlt
      have HU := hide hu
      clear hT hu
      have hj1 : (j : Int) < len := by omega
      by_cases hV0 : 0 ≤ V
      · by_cases hV1 : V ≤ 1099511627776
        · by_cases hj0 : j = 0
          · have hg : decide (0 < j) = false := by simp; omega
            have HJ0 := hide hj0
            clear hj0
            go_wp2
            go_quiet (fail)
            go_wp2
            go_roundw
            case rel => exact ⟨j + 1, by omega, by go_num, below_drewN (hb.alloc hb.size _) _, subst_take_succ (unhide HU) (unhide HS) hV0 hV1 (fun q h => by have := unhide HJ0; omega)⟩
            case measure => simp [intOf]; omega
          · obtain ⟨i, hij⟩ : ∃ i, j = i + 1 := ⟨j - 1, by omega⟩
            obtain ⟨V', u', b', off', hu', ha', hbk', hT', d0, _⟩ := bind_at (unhide HL) hb (j := i) (by omega)
            simp at ha'
            obtain ⟨rfl, rfl⟩ := ha'
            have hjp : decide (0 < j) = true := by simp; omega
            have hjm : ((j : Int) - 1) = (i : Int) := by omega
            have hil : (i : Int) < len := by omega
            have hib : (i : Int) ≤ 9223372036854775807 := by omega
            have hjb : (j : Int) ≤ 9223372036854775807 := by omega
            have HIJ := hide hij
            clear hij hj0
            have HU' := hide hu'
            have d0' : (wr.alloc (.cells #[.int .i64 V, .int .i64 u.tv.k, .int .i64 u.tv.N, .string u.tv.s, .slice u.tv.a u.tv.len u.tv.cap] 101)).cell? ⟨b, off + i * 5, none⟩ = some (.int .i64 V') := cell_kept d0 (World.grownBy_alloc _ _ none) (fun r e => by cases e)
            clear hu' hT'
            by_cases hVV : V ≤ V'
            · have hvv : decide (V ≤ V') = true := by simp [hVV]
              go_wp2
              go_quiet (fail)
              go_wp2
              go_ret
              refine ⟨rise_no fun h => ?_, below_drewN (hb.alloc hb.size _) _⟩
              have := h.2 i j (V', u') (V, u) (unhide HU') (unhide HU) (by have := unhide HIJ; omega)
              simp at this; omega
            · have hvv : decide (V ≤ V') = false := by simp; omega
              go_wp2
              go_quiet (fail)
              go_wp2
              go_roundw
              case rel => exact ⟨j + 1, by omega, by go_num, below_drewN (hb.alloc hb.size _) _, subst_take_succ (unhide HU) (unhide HS) hV0 hV1 (fun q _ hq => by rw [show j - 1 = i by have := unhide HIJ; omega, unhide HU'] at hq; cases hq; simp; omega)⟩
              case measure => simp [intOf]; omega
        · go_wp2
          go_ret
          refine ⟨rise_no fun h => ?_, hb.alloc hb.size _⟩
          have := h.1 (V, u) (List.mem_of_getElem? (unhide HU))
          simp at this; omega
      · go_wp2
        go_ret
        refine ⟨rise_no fun h => ?_, hb.alloc hb.size _⟩
        have := h.1 (V, u) (List.mem_of_getElem? (unhide HU))
        simp at this; omega
    · have ht : bs.take j = bs := List.take_of_length_le (by omega)
      have HT := hide ht
      clear ht
      go_wp2_with fail
      go_ret
      exact ⟨rise_yes (by have h := unhide HS; rw [unhide HT] at h; exact h), hb⟩
end Go.Proofs.Ytcdgmjpgmiehcaa

/- The contract of term.checkBinds. -/
namespace Go.Proofs.Ytcdgmjpgmiehcaa
open Go.RowKit Go.Shelf

/-- A list of binds and where it lies. -/
structure BL (n : Nat) where
  a : Option Addr
  len : Nat
  cap : Nat
  bs : List (Int × Tm n)
def okB {n : Nat} (L : BL n) : Prop := ∀ p ∈ L.bs, okT p.2 = true
/-- What checkBinds answers. -/
def BindSays {n : Nat} (Ls : List (BL n)) (e : Ending) : Prop := ∃ r : Int, e = .returned (.int .i64 r) ∧ ((¬ ∀ L ∈ Ls, okB L) → r = 2) ∧ ((∀ L ∈ Ls, okB L) → (¬ ∀ L ∈ Ls, Subst L.bs) → r = 1) ∧ ((∀ L ∈ Ls, okB L) → (∀ L ∈ Ls, Subst L.bs) → r = 0)
theorem says_two {n : Nat} {Ls : List (BL n)} (h : ¬ ∀ L ∈ Ls, okB L) : BindSays Ls (.returned (.int .i64 2)) := ⟨2, rfl, fun _ => rfl, fun k => (h k).elim, fun k => (h k).elim⟩
theorem says_one {n : Nat} {Ls : List (BL n)} (h : ∀ L ∈ Ls, okB L) (h' : ¬ ∀ L ∈ Ls, Subst L.bs) : BindSays Ls (.returned (.int .i64 1)) := ⟨1, rfl, fun k => (k h).elim, fun _ _ => rfl, fun _ k => (h' k).elim⟩
theorem says_zero {n : Nat} {Ls : List (BL n)} (h : ∀ L ∈ Ls, okB L) (h' : ∀ L ∈ Ls, Subst L.bs) : BindSays Ls (.returned (.int .i64 0)) := ⟨0, rfl, fun k => (k h).elim, fun _ k => (k h').elim, fun _ _ => rfl⟩
/-- The first j have it. -/
def Fst {α : Type} (p : α → Prop) (l : List α) (j : Nat) : Prop := ∀ i x, l[i]? = some x → i < j → p x
theorem Fst.next {α : Type} {p : α → Prop} {l : List α} {j : Nat} {x : α} (h : Fst p l j) (hx : l[j]? = some x) (hp : p x) : Fst p l (j + 1) := fun i y hy hi => by
  by_cases e : i = j
  · subst e; rw [hx] at hy; cases hy; exact hp
  · exact h i y hy (by omega)
theorem Fst.all {α : Type} {p : α → Prop} {l : List α} {j : Nat} (h : Fst p l j) (hj : l.length ≤ j) : ∀ x ∈ l, p x := fun x hx => by
  obtain ⟨i, hi⟩ := List.mem_iff_getElem?.1 hx
  exact h i x hi (by have := (List.getElem?_eq_some_iff.1 hi).1; omega)

set_option maxRecDepth 100000 in
set_option maxHeartbeats 2000000 in
theorem checkBinds_any {n : Nat} (Ls : List (BL n)) (B off cp m : Nat) (w : World) (hm : m = Ls.length) (hm2 : m ≤ 100)
    (hLs : ∀ i L, Ls[i]? = some L → w.cell? ⟨B, off + i, none⟩ = some (.slice L.a L.len L.cap) ∧ IsL w.heap.size w L.a L.len L.bs) (hB : B < w.heap.size) :
    Calls Try.prog 60 #[.slice (some ⟨B, off, none⟩) m cp] w fun e W' => BindSays Ls e ∧ Below w.heap.size w W' := by
  have hm1 : m ≤ Ls.length := by omega
  have hm3 : Ls.length ≤ m := by omega
  have HLs := hide hLs
  clear hm hLs
  go_enter Try.func60, Try.ntmps60
  go_wp2_with fail
  go_loopw [12] (fun i wr => ∃ j : Nat, j ≤ m ∧ i = .int .i64 j ∧ Below w.heap.size w wr ∧ Fst okB Ls j) (fun i _ => m - (intOf i).toNat)
  case atStart => exact ⟨0, Nat.zero_le _, rfl, Below.refl _ _, fun i x _ h => by omega⟩
  case round =>
    obtain ⟨j, hj, rfl, hb, hs⟩ := hrel
    have HS := hide hs
    clear hs
    by_cases hlt : j < m
    · obtain ⟨⟨La, Ll, Lc, Lb⟩, hL⟩ : ∃ L, Ls[j]? = some L := ⟨Ls[j]'(by omega), List.getElem?_eq_getElem (by omega)⟩
      obtain ⟨hc, hil⟩ := (unhide HLs) j _ hL
      simp only at hc hil
      replace hc := (hb.cell (p := ⟨B, off + j, none⟩) hB).trans hc
      have hl60 := hil.2.1
      have hl1 : Ll ≤ Lb.length := by have := hil.1; omega
      have hl2 : Lb.length ≤ Ll := by have := hil.1; omega
      have HIL := hide hil
      have HLJ := hide hL
      clear hil hL
      have hj1 : (j : Int) < m := by omega
      go_wp2_with fail
      clear hc
      go_loopw [18] (fun i wr => ∃ k : Nat, k ≤ Ll ∧ i = .int .i64 k ∧ Below w.heap.size w wr ∧ Fst (fun p : Int × Tm n => okT p.2 = true) Lb k) (fun i _ => Ll - (intOf i).toNat)
      case atStart => exact ⟨0, Nat.zero_le _, rfl, hb, fun i x _ h => by omega⟩
      case round =>
        obtain ⟨k, hk, rfl, hb2, hs2⟩ := hrel
        have HS2 := hide hs2
        clear hs2
        by_cases hlt2 : k < Ll
        · obtain ⟨V, u, b, off', hu, rfl, hbk, hT, c0, c1, c2, c3, c4⟩ := bind_at (unhide HIL) hb2 hlt2
          have hk1 : (k : Int) < Ll := by omega
          have hbu := (Below.refl _ wr).alloc (Nat.le_refl _) (.cells #[.int .i64 V, .int .i64 u.tv.k, .int .i64 u.tv.N, .string u.tv.s, .slice u.tv.a u.tv.len u.tv.cap] 101)
          have hck : Calls Try.prog 29 #[.agg #[.int .i64 u.tv.k, .int .i64 u.tv.N, .string u.tv.s, .slice u.tv.a u.tv.len u.tv.cap]] (wr.alloc (.cells #[.int .i64 V, .int .i64 u.tv.k, .int .i64 u.tv.N, .string u.tv.s, .slice u.tv.a u.tv.len u.tv.cap] 101)) fun e W2 => e = .returned (.int .i64 (chk u)) ∧ Below wr.heap.size wr W2 :=
            (check_any u _ ((hT.below hbu).mono hbu.size)).mono fun e W2 h => ⟨h.1, hbu.trans (h.2.mono hbu.size)⟩
          have HU := hide hu
          have hcz := @chk_zero _ u
          have hcn := @chk_no _ u
          clear hT hu hbu
          generalize hd : chk u = d at *
          clear hd
          cases ho : okT u with
          | true =>
            have hd0 : d = 0 := hcz.2 ho
            have hd' : (d != 0) = false := by simp [hd0]
            have HOU := hide ho
            clear hd0 hcz hcn ho
            go_wp2_with (go_at_call 29; refine hck.mono ?_; clear hck; rintro e W2 ⟨rfl, hb3⟩)
            go_roundw
            case rel => exact ⟨k + 1, by omega, by go_num, hb2.trans (hb3.mono hb2.size), (unhide HS2).next (unhide HU) (unhide HOU)⟩
            case measure => simp [intOf]; omega
          | false =>
            have hd2 : d = 2 := hcn ho
            have HOU := hide ho
            clear hcz hcn ho
            subst hd2
            go_wp2_with (go_at_call 29; refine hck.mono ?_; clear hck; rintro e W2 ⟨rfl, hb3⟩)
            go_ret
            refine ⟨says_two fun h => ?_, hb2.trans (hb3.mono hb2.size)⟩
            have := h _ (List.mem_of_getElem? (unhide HLJ)) _ (List.mem_of_getElem? (unhide HU))
            rw [unhide HOU] at this
            cases this
        · go_wp2_with fail
          go_roundw
          case rel => exact ⟨j + 1, by omega, by go_num, hb2, (unhide HS).next (unhide HLJ) (fun p hp => (unhide HS2).all (by omega) p hp)⟩
          case measure => simp [intOf]; omega
    · have hall := (unhide HS).all (by omega)
      have HALL := hide hall
      clear hall
      go_wp2_with fail
      go_loopw [32] (fun i wr => ∃ j : Nat, j ≤ m ∧ i = .int .i64 j ∧ Below w.heap.size w wr ∧ Fst (fun L : BL n => Subst L.bs) Ls j) (fun i _ => m - (intOf i).toNat)
      case atStart => exact ⟨0, Nat.zero_le _, rfl, hb, fun i x _ h => by omega⟩
      case round =>
        obtain ⟨k, hk, rfl, hb2, hs2⟩ := hrel
        have HS2 := hide hs2
        clear hs2
        by_cases hlt2 : k < m
        · obtain ⟨⟨La, Ll, Lc, Lb⟩, hL⟩ : ∃ L, Ls[k]? = some L := ⟨Ls[k]'(by omega), List.getElem?_eq_getElem (by omega)⟩
          obtain ⟨hc, hil⟩ := (unhide HLs) k _ hL
          simp only at hc hil
          replace hc := (hb2.cell (p := ⟨B, off + k, none⟩) hB).trans hc
          have hri := isRising_any Lb La Ll Lc wr ((hil.below hb2).mono hb2.size)
          have HLJ := hide hL
          clear hil hL
          have hk1 : (k : Int) < m := by omega
          go_wp2_with fail
          refine hri.mono ?_
          clear hri
          rintro e W2 ⟨⟨f, rfl, hf⟩, hb3⟩
          have HF := hide hf
          clear hf
          cases f with
          | true =>
            go_wp2_with fail
            go_roundw
            case rel => exact ⟨k + 1, by omega, by go_num, hb2.trans (hb3.mono hb2.size), (unhide HS2).next (unhide HLJ) ((unhide HF).1 (by simp))⟩
            case measure => simp [intOf]; omega
          | false =>
            go_wp2_with fail
            go_ret
            refine ⟨says_one (unhide HALL) fun h => ?_, hb2.trans (hb3.mono hb2.size)⟩
            have := (unhide HF).2 (h _ (List.mem_of_getElem? (unhide HLJ)))
            simp at this
        · have hall2 := (unhide HS2).all (by omega)
          have HALL2 := hide hall2
          clear hall2
          go_wp2_with fail
          go_ret
          exact ⟨says_zero (unhide HALL) (unhide HALL2), hb2⟩
end Go.Proofs.Ytcdgmjpgmiehcaa

