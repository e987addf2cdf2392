import Derived.Test.YtcdbbimhbijipaaDoorSb
import Derived.Test.YtcdbbimhbijipaaDoorO
import Derived.Test.YtcdbbimhbijipaaDoorP
/- Plain mathematics of Compose: the row that is made, sorted, is the row of binds put in one by one. -/
namespace Go.Proofs.YtcdbbimhbijipaaDoor

def addS (cu : List (Int × List Nd)) (c : List (Int × List Nd)) (p : Int × List Nd) : List (Int × List Nd) := addC c p.1 (p.2.flatMap (subN (lookC cu)))
def addU (cs : List (Int × List Nd)) (c : List (Int × List Nd)) (p : Int × List Nd) : List (Int × List Nd) := if ∃ q ∈ cs, q.1 = p.1 then c else addC c p.1 p.2
theorem insF_snoc {β : Type} (c : List (Int × β)) (N : Int) (y : β) : insF (c ++ [(N, y)]) = insK (insF c) N y := by
  simp [insF, List.foldl_append]
theorem insF_addC (c : List (Int × List Nd)) (N : Int) (ct : List Nd) : insF (addC c N ct) = if ct = [varNd N] then insF c else insK (insF c) N ct := by
  unfold addC
  split
  · rfl
  · exact insF_snoc _ _ _
theorem insF_addS (cu c : List (Int × List Nd)) (p : Int × List Nd) : insF (addS cu c p) = stepS cu (insF c) p := insF_addC _ _ _
theorem insF_addU (cs c : List (Int × List Nd)) (p : Int × List Nd) : insF (addU cs c p) = stepU cs (insF c) p := by
  unfold addU stepU
  by_cases h : ∃ q ∈ cs, q.1 = p.1
  · rw [if_pos h, if_pos (.inl h)]
  · rw [if_neg h, insF_addC]
    by_cases h2 : p.2 = [varNd p.1]
    · rw [if_pos h2, if_pos (.inr h2)]
    · rw [if_neg h2, if_neg (fun k => k.elim h h2)]
theorem foldl_through {α β γ : Type} (F : β → γ) (f : β → α → β) (g : γ → α → γ) (h : ∀ b a, F (f b a) = g (F b) a) : ∀ (l : List α) (b : β), F (l.foldl f b) = l.foldl g (F b)
  | [], _ => rfl
  | a :: l, b => by rw [List.foldl_cons, List.foldl_cons, foldl_through F f g h l, h]
/-- The row that Compose makes, and sorts. -/
def madeC (cs cu : List (Int × List Nd)) : List (Int × List Nd) := cu.foldl (addU cs) (cs.foldl (addS cu) [])
theorem insF_madeC (cs cu : List (Int × List Nd)) : insF (madeC cs cu) = cu.foldl (stepU cs) (cs.foldl (stepS cu) []) := by
  unfold madeC
  rw [foldl_through insF (addU cs) (stepU cs) (insF_addU cs), foldl_through insF (addS cu) (stepS cu) (insF_addS cu)]
  rfl
theorem once_fold {β : Type} (ok : Int × β → Prop) (f : List (Int × β) → Int × β → List (Int × β)) (hf : ∀ c p, f c p = c ∨ (ok p ∧ ∃ y, f c p = c ++ [(p.1, y)])) :
    ∀ (l c : List (Int × β)), Once l → Once c → (∀ p ∈ c, ∀ q ∈ l, ok q → p.1 ≠ q.1) → Once (l.foldl f c) ∧ ∀ p ∈ l.foldl f c, (∃ r ∈ c, r.1 = p.1) ∨ ∃ q ∈ l, q.1 = p.1
  | [], c, _, hc, _ => ⟨hc, fun p hp => .inl ⟨p, hp, rfl⟩⟩
  | x :: l, c, hl, hc, hd => by
    obtain ⟨h1, h2⟩ := List.pairwise_cons.1 hl
    rcases hf c x with e | ⟨hok, y, e⟩
    · obtain ⟨i1, i2⟩ := once_fold ok f hf l c h2 hc (fun p hp q hq => hd p hp q (List.mem_cons_of_mem _ hq))
      rw [List.foldl_cons, e]
      refine ⟨i1, fun p hp => ?_⟩
      rcases i2 p hp with h | ⟨q, hq, h⟩
      · exact .inl h
      · exact .inr ⟨q, List.mem_cons_of_mem _ hq, h⟩
    · have hc' : Once (c ++ [(x.1, y)]) := by
        refine List.pairwise_append.2 ⟨hc, List.pairwise_singleton _ _, fun p hp q hq => ?_⟩
        simp at hq
        subst hq
        exact hd p hp x (by simp) hok
      obtain ⟨i1, i2⟩ := once_fold ok f hf l (c ++ [(x.1, y)]) h2 hc' (fun p hp q hq hq2 => by
        rcases List.mem_append.1 hp with hp | hp
        · exact hd p hp q (List.mem_cons_of_mem _ hq) hq2
        · simp at hp
          subst hp
          exact h1 q hq)
      rw [List.foldl_cons, e]
      refine ⟨i1, fun p hp => ?_⟩
      rcases i2 p hp with ⟨r, hr, h⟩ | ⟨q, hq, h⟩
      · rcases List.mem_append.1 hr with hr | hr
        · exact .inl ⟨r, hr, h⟩
        · simp at hr
          subst hr
          exact .inr ⟨x, by simp, h⟩
      · exact .inr ⟨q, List.mem_cons_of_mem _ hq, h⟩
theorem rises_once {n : Nat} {bs : List (Int × Tm n)} (h : Rises bs) : Once (cb bs) := by
  refine List.pairwise_iff_getElem.2 fun i j hi hj hij => ?_
  have hi' : i < bs.length := by simpa [cb] using hi
  have hj' : j < bs.length := by simpa [cb] using hj
  have := h i j _ _ (List.getElem?_eq_getElem hi') (List.getElem?_eq_getElem hj') hij
  simp only [cb, List.getElem_map]
  omega
theorem madeC_once {cs cu : List (Int × List Nd)} (h1 : Once cs) (h2 : Once cu) : Once (madeC cs cu) := by
  obtain ⟨i1, i2⟩ := once_fold (fun _ => True) (addS cu) (fun c p => by
    unfold addS addC
    split
    · exact .inl rfl
    · exact .inr ⟨trivial, _, rfl⟩) cs [] h1 List.Pairwise.nil (fun p hp => by cases hp)
  refine (once_fold (fun p => ¬ ∃ q ∈ cs, q.1 = p.1) (addU cs) (fun c p => ?_) cu _ h2 i1 (fun p hp q hq hok e => ?_)).1
  · unfold addU addC
    split
    · exact .inl rfl
    · split
      · exact .inl rfl
      · rename_i h _; exact .inr ⟨h, _, rfl⟩
  · rcases i2 p hp with ⟨r, hr, _⟩ | ⟨r, hr, h⟩
    · cases hr
    · exact hok ⟨r, hr, h.trans e⟩
end Go.Proofs.YtcdbbimhbijipaaDoor

/- The contract of term.Compose. -/
namespace Go.Proofs.YtcdbbimhbijipaaDoor
open Go.RowKit Go.Shelf

/-- A bind laid in a new block. -/
theorem bind_box (W : World) (V : Int) (x : TV) : (W.alloc (.cells #[.int .i64 V, .int .i64 x.k, .int .i64 x.N, .string x.s, .slice x.a x.len x.cap] 47)).cell? ⟨W.heap.size, 0, none⟩ = some (.int .i64 V) ∧ (W.alloc (.cells #[.int .i64 V, .int .i64 x.k, .int .i64 x.N, .string x.s, .slice x.a x.len x.cap] 47)).cell? ⟨W.heap.size, 1, none⟩ = some (.int .i64 x.k) ∧ (W.alloc (.cells #[.int .i64 V, .int .i64 x.k, .int .i64 x.N, .string x.s, .slice x.a x.len x.cap] 47)).cell? ⟨W.heap.size, 2, none⟩ = some (.int .i64 x.N) ∧ (W.alloc (.cells #[.int .i64 V, .int .i64 x.k, .int .i64 x.N, .string x.s, .slice x.a x.len x.cap] 47)).cell? ⟨W.heap.size, 3, none⟩ = some (.string x.s) ∧ (W.alloc (.cells #[.int .i64 V, .int .i64 x.k, .int .i64 x.N, .string x.s, .slice x.a x.len x.cap] 47)).cell? ⟨W.heap.size, 4, none⟩ = some (.slice x.a x.len x.cap) := by
  refine ⟨?_, ?_, ?_, ?_, ?_⟩ <;> simp
end Go.Proofs.YtcdbbimhbijipaaDoor

/- A list of binds that can be read as data lies in memory as IsL says, at every number of storeys from the reading's fuel on. -/
namespace Go.Proofs.YtcdbbimhbijipaaDoor
open Go.RowKit Go.Joins Go.WideShapes

theorem Tryd.cells61 : Tryd.prog.cellsOf 47 = 5 := by kernel_rfl

theorem list5 {α : Type} {l : List α} (h : l.length = 5) : ∃ a b c d e, l = [a, b, c, d, e] := by
  match l, h with
  | [a, b, c, d, e], _ => exact ⟨a, b, c, d, e, rfl⟩
theorem cells5 {w : World} {base : Nat} {a : Addr} {c0 c1 c2 c3 c4 : Value} (h : w.cells? base a 5 = some [c0, c1, c2, c3, c4]) : a.spot = none ∧ w.cell? ⟨a.block, a.off, none⟩ = some c0 ∧ w.cell? ⟨a.block, a.off + 1, none⟩ = some c1 ∧ w.cell? ⟨a.block, a.off + 2, none⟩ = some c2 ∧ w.cell? ⟨a.block, a.off + 3, none⟩ = some c3 ∧ w.cell? ⟨a.block, a.off + 4, none⟩ = some c4 := by
  unfold World.cells? at h
  split at h
  · obtain ⟨b, off, spot⟩ := a
    simp [List.range_succ, List.mapM_cons, Addr.add, Option.bind_eq_some_iff] at h
    obtain ⟨h0, h1, h2, h3, h4⟩ := h
    have hs : spot = none := World.cell?_spot h0
    subst hs
    exact ⟨rfl, h0, h1, h2, h3, h4⟩
  · cases h

/-- A bind that can be read: its five cells. -/
theorem open_bind {H : Type} {enc : TypeId × Value → H} {w : World} {spare : Nat → Bool} {held : Bool} {fuel m : Nat} (hm : fuel ≤ m) {cs : List Value} {y : DataW H × List MemPlace}
    (h : DataW.trod enc Tryd.prog w 0 spare held fuel 47 cs = some y) : ∃ (V : Int) (t : Tm m), cs = [.int .i64 V, .int .i64 t.tv.k, .int .i64 t.tv.N, .string t.tv.s, .slice t.tv.a t.tv.len t.tv.cap] ∧ IsT w.heap.size w t := by
  obtain ⟨xs, n, rfl, -, hl, hxl, hfs⟩ := DataW.trod_struct Tryd.underlying47 h
  rw [Tryd.cells61] at hl
  have hx2 : xs.length = 2 := hxl
  clear hxl
  obtain ⟨v0, v1, v2, v3, v4, rfl⟩ := list5 hl
  have f0 : DataW.trod enc Tryd.prog w 0 spare held n 2 (List.take (Tryd.prog.cellsOf 2) (List.drop 0 [v0, v1, v2, v3, v4])) = xs[0]? := hfs 0 _ rfl
  have f1 : DataW.trod enc Tryd.prog w 0 spare held n 24 (List.take (Tryd.prog.cellsOf 24) (List.drop 1 [v0, v1, v2, v3, v4])) = xs[1]? := hfs 1 _ rfl
  rw [Tryd.cells2] at f0
  rw [Tryd.cells28] at f1
  simp only [List.drop_zero, List.drop_succ_cons, List.take_succ_cons, List.take_zero] at f0 f1
  clear hfs
  obtain ⟨x0, e0⟩ : ∃ x, xs[0]? = some x := ⟨xs[0]'(by omega), List.getElem?_eq_getElem (by omega)⟩
  obtain ⟨x1, e1⟩ : ∃ x, xs[1]? = some x := ⟨xs[1]'(by omega), List.getElem?_eq_getElem (by omega)⟩
  rw [e0] at f0
  rw [e1] at f1
  obtain ⟨V, g0, -, -⟩ := DataW.trod_int Tryd.underlying2 f0
  obtain ⟨t, g1, hT⟩ := open_term n n (Nat.le_refl _) m (by omega) _ _ f1
  simp only [List.cons.injEq, and_true] at g0
  subst g0
  rw [g1]
  exact ⟨V, t, rfl, hT⟩

set_option maxRecDepth 100000 in
/-- An argument that is a list of binds: from some number of storeys on it is one. -/
theorem open_binds {H : Type} {enc : TypeId × Value → H} {w : World} {r : Reach} {b0 : Nat} {spare : Nat → Bool} {held : Bool} {v : Value} {d : DataW H} {p : List MemPlace} (hv : Value.okWide Tryd.prog w r b0 29 v) (h : DataW.Trod enc Tryd.prog w 0 spare held 29 v d p) :
    ∃ a len cap, v = .slice a len cap ∧ (len = 0 ∨ ∃ es sp, d = .slice es sp ∧ es.length = len) ∧ (len ≤ 1152921504606846976 → ∃ N, ∀ m, N ≤ m → ∃ bs : List (Int × Tm m), IsL w.heap.size w a len bs) := by
  obtain ⟨a, len, cap, rfl⟩ := okWide_slice Tryd.underlying29 hv
  obtain ⟨fuel, hf⟩ := h
  refine ⟨a, len, cap, rfl, ?_⟩
  have hf' : DataW.trod enc Tryd.prog w 0 spare held fuel 29 [.slice a len cap] = some (d, p) := by simpa [Value.cells] using hf
  rcases DataW.trod_slice Tryd.underlying29 hf' with ⟨g3, -⟩ | ⟨a', len', cap', elems, rest, n', hn', g3, hd, hb, hlc, hmx, hlen, hel, -, -⟩
  · simp only [List.cons.injEq, and_true, Value.slice.injEq] at g3
    obtain ⟨rfl, rfl, rfl⟩ := g3
    exact ⟨.inl rfl, fun _ => ⟨0, fun m _ => ⟨[], rfl, by omega, .inl rfl⟩⟩⟩
  · simp only [List.cons.injEq, and_true, Value.slice.injEq] at g3
    obtain ⟨rfl, rfl, rfl⟩ := g3
    refine ⟨.inr ⟨_, _, (Prod.ext_iff.1 hd).1, by simpa using hlen⟩, fun hbig => ⟨n', fun m hm => ?_⟩⟩
    by_cases hl0 : len = 0
    · subst hl0
      exact ⟨[], rfl, by omega, .inl rfl⟩
    have hel' : ∀ i, i < len → ∃ q : Int × Tm m, w.cells? 0 (a'.add (i * 5)) 5 = some [.int .i64 q.1, .int .i64 q.2.tv.k, .int .i64 q.2.tv.N, .string q.2.tv.s, .slice q.2.tv.a q.2.tv.len q.2.tv.cap] ∧ IsT w.heap.size w q.2 := by
      intro i hi
      have h1 := hel i hi
      rw [List.getElem?_eq_getElem (by omega)] at h1
      obtain ⟨cs', h2, h3⟩ := Option.bind_eq_some_iff.1 h1
      obtain ⟨V, t, hu, hT⟩ := open_bind hm h3
      subst hu
      rw [Tryd.cells61] at h2
      exact ⟨(V, t), h2, hT⟩
    clear hel
    obtain ⟨b, off, spot⟩ := a'
    have hspot : spot = none := by
      obtain ⟨u, h2, -⟩ := hel' 0 (by omega)
      obtain ⟨s1, -⟩ := cells5 h2
      simpa [Addr.add] using s1
    subst hspot
    have hkid : ∀ i, i < len → ∃ q : Int × Tm m, b < w.heap.size ∧ w.cell? ⟨b, off + i * 5, none⟩ = some (.int .i64 q.1) ∧ cellsAt w b (off + i * 5 + 1) q.2.tv ∧ IsT w.heap.size w q.2 := by
      intro i hi
      obtain ⟨q, h2, hT⟩ := hel' i hi
      rw [add_none] at h2
      obtain ⟨-, k0, k1, k2, k3, k4⟩ := cells5 h2
      exact ⟨q, cell_lt k0, k0, ⟨k1, k2, k3, k4⟩, hT⟩
    obtain ⟨bs, hbl, hbs⟩ := list_of hkid
    obtain ⟨_, hb0, _⟩ := hkid 0 (by omega)
    exact ⟨bs, hbl.symm, hbig, .inr ⟨b, off, rfl, hb0, fun j q hq => (hbs j q hq).2⟩⟩
end Go.Proofs.YtcdbbimhbijipaaDoor

