import Derived.Test.YtcjeeagnfmipgaaGreatDoorCms
import Derived.Test.YtcjeeagnfmipgaaGreatDoorNss
import Derived.Maps.RangeWalk
import Derived.Maps.OwnSet
import Derived.Maps.Views
/- A map of terms that the call made (Met): its keys and the codes of what they stand for; what a world keeps but for the map's block. -/
namespace Go.Proofs.YtcjeeagnfmipgaaGreatDoor
open Go.RowKit Go.Shelf Go.Maps

/-- How a term reads as a map's element: as itself. -/
def termElem (v : Value) : Option (DataW TV × List MemPlace) :=
  match v with
  | .agg cs => match cs.toList with
    | [.int .i64 k, .int .i64 N, .string s, .slice a len cap] => some (.held ⟨k, N, s, a, len, cap⟩, [])
    | _ => none
  | _ => none
theorem termElem_mk (x : TV) : termElem x.val = some (.held x, []) := by simp [termElem, TV.val]
theorem termElem_inv {v : Value} {z : DataW TV × List MemPlace} (h : termElem v = some z) : ∃ x : TV, v = x.val ∧ z = (.held x, []) := by
  unfold termElem at h
  split at h
  · split at h
    · rename_i cs _ k N s a len cap hcs
      simp only [Option.some.injEq] at h
      refine ⟨⟨k, N, s, a, len, cap⟩, ?_, h.symm⟩
      simp only [TV.val, Value.agg.injEq]
      rw [← Array.toList_inj, hcs]
    · cases h
  · cases h
def zeroV : TV := ⟨0, 0, ⟨#[]⟩, none, 0, 0⟩
theorem Tryz.zero28 (w : World) : (zeroValue 24).run Tryz.prog w = .ok zeroV.val w := by kernel_rfl
theorem once_le {β : Type} {c : List (Int × β)} (h : Once c) (hk : ∀ q ∈ c, 0 ≤ q.1 ∧ q.1 ≤ 1099511627776) : c.length ≤ 1099511627777 := by
  have h1 := nodup_le 1099511627777 (c.map fun q => q.1.toNat) (by
    rw [List.Nodup, List.pairwise_map]
    exact List.Pairwise.imp_of_mem (fun {p q} hp hq hne e => hne (by have := hk p hp; have := hk q hq; omega)) h) (fun x hx => by
    obtain ⟨q, hq, rfl⟩ := List.mem_map.1 hx
    have := hk q hq
    omega)
  simpa using h1

/-- A map from variables to terms: keys and codes, in the order of their coming. -/
structure Met (D n₀ : Nat) (W : World) (b : Nat) (c : List (Int × List Nd)) : Prop where
  once : Once c
  key : ∀ q ∈ c, 0 ≤ q.1 ∧ q.1 ≤ 1099511627776
  map : ∃ E : DataW TV, W.ownsMap Tryz.prog 2 termElem b c.length E ∧ (∀ N, Maps.has E (.int .i64 N) = true ↔ ∃ q ∈ c, q.1 = N) ∧ ∀ q ∈ c, ∃ x : TV, (∀ z, E.atKey (.int .i64 q.1) z = .held x) ∧ HoldsS D (· < n₀) W x.val q.2
theorem Met.lt {D n₀ : Nat} {W : World} {b : Nat} {c : List (Int × List Nd)} (h : Met D n₀ W b c) : b < W.heap.size := by
  obtain ⟨E, h1, _⟩ := h.map
  exact h1.lt
theorem Met.made (D n₀ : Nat) (W : World) : Met D n₀ (W.alloc (.map #[] 0)) W.heap.size [] :=
  ⟨List.Pairwise.nil, (fun q hq => by cases hq), .map [], World.ownsMap_made W Tryz.prog 2 termElem, (fun N => by simp [Maps.has]), (fun q hq => by cases hq)⟩

theorem Met.below {D n₀ : Nat} {W W' : World} {b : Nat} {c : List (Int × List Nd)} (h : Met D n₀ W b c) (hb : Below W.heap.size W W') : Met D n₀ W' b c := by
  obtain ⟨E, h1, h2, h3⟩ := h.map
  refine ⟨h.once, h.key, E, h1.kept (row := none) ⟨hb.os, hb.tape, hb.output, hb.size, fun k hk _ => hb.block k hk⟩ (by simp), h2, fun q hq => ?_⟩
  obtain ⟨x, k1, k2⟩ := h3 q hq
  exact ⟨x, k1, k2.below hb⟩
theorem HoldsS.grown {D n₀ : Nat} {A B : World} {b : Nat} {v : Value} {c : List Nd} (h : HoldsS D (· < n₀) A v c) (hg : A.grownBy B (some b)) (hb : n₀ ≤ b) : HoldsS D (· < n₀) B v c :=
  h.fromS (fun k hk hlt => hg.block k hlt (by simp; omega)) hg.size

theorem find_key {β : Type} {c : List (Int × β)} {N : Int} (h : ∃ q ∈ c, q.1 = N) : ∃ q, c.find? (fun q => decide (q.1 = N)) = some q ∧ q ∈ c ∧ q.1 = N := by
  cases hf : c.find? (fun q => decide (q.1 = N)) with
  | none =>
    rw [List.find?_eq_none] at hf
    obtain ⟨q, hq, e⟩ := h
    exact (hf q hq (by simp [e])).elim
  | some q => exact ⟨q, rfl, List.mem_of_find?_eq_some hf, by simpa using List.find?_some hf⟩
theorem find_no {β : Type} {c : List (Int × β)} {N : Int} (h : ¬ ∃ q ∈ c, q.1 = N) : c.find? (fun q => decide (q.1 = N)) = none := by
  rw [List.find?_eq_none]
  intro q hq e
  exact h ⟨q, hq, by simpa using e⟩

/-- What is asked of the map: there. -/
theorem Met.look {D n₀ : Nat} {W : World} {b : Nat} {c : List (Int × List Nd)} (h : Met D n₀ W b c) {N : Int} (h0 : 0 ≤ N) (h1 : N ≤ 1099511627776) (hq : ∃ q ∈ c, q.1 = N) :
    ∃ (x : TV) (q : Int × List Nd), c.find? (fun q => decide (q.1 = N)) = some q ∧ (Instr.lookup 104 (.map (some b)) (.int .i64 N) true).run Tryz.prog W = .ok (.tuple #[x.val, .bool true]) W ∧ HoldsS D (· < n₀) W x.val q.2 := by
  obtain ⟨E, e1, e2, e3⟩ := h.map
  obtain ⟨v, ps, hrun, hv⟩ := e1.look_ok Tryz.keyed2 Tryz.underlying104 (Tryz.zero28 W) (termElem_mk zeroV) (key_i64 h0 h1)
  obtain ⟨q, k1, k2, rfl⟩ := find_key hq
  obtain ⟨x, j1, j2⟩ := e3 q k2
  rw [(e2 q.1).2 hq] at hrun
  obtain ⟨y, rfl, hy⟩ := termElem_inv hv
  rw [j1] at hy
  simp only [Prod.mk.injEq, DataW.held.injEq] at hy
  obtain ⟨rfl, _⟩ := hy
  exact ⟨x, q, k1, hrun, j2⟩
/-- What is asked of the map: not there. -/
theorem Met.miss {D n₀ : Nat} {W : World} {b : Nat} {c : List (Int × List Nd)} (h : Met D n₀ W b c) {N : Int} (h0 : 0 ≤ N) (h1 : N ≤ 1099511627776) (hq : ¬ ∃ q ∈ c, q.1 = N) :
    (Instr.lookup 104 (.map (some b)) (.int .i64 N) true).run Tryz.prog W = .ok (.tuple #[zeroV.val, .bool false]) W := by
  obtain ⟨E, e1, e2, e3⟩ := h.map
  obtain ⟨v, ps, hrun, hv⟩ := e1.look_ok Tryz.keyed2 Tryz.underlying104 (Tryz.zero28 W) (termElem_mk zeroV) (key_i64 h0 h1)
  have hf : Maps.has E (.int .i64 N) = false := by
    cases hh : Maps.has E (.int .i64 N) with
    | false => rfl
    | true => exact (hq ((e2 N).1 hh)).elim
  rw [hf] at hrun
  rw [atKey_of_not_has hf] at hv
  obtain ⟨y, rfl, hy⟩ := termElem_inv hv
  simp only [Prod.mk.injEq, DataW.held.injEq] at hy
  obtain ⟨rfl, _⟩ := hy
  exact hrun
/-- A key that is new. -/
theorem Met.put {D n₀ : Nat} {W : World} {b : Nat} {c : List (Int × List Nd)} (h : Met D n₀ W b c) (hb : n₀ ≤ b) {N : Int} (h0 : 0 ≤ N) (h1 : N ≤ 1099511627776) (hq : ¬ ∃ q ∈ c, q.1 = N) {x : TV} {ct : List Nd} (hx : HoldsS D (· < n₀) W x.val ct) :
    ∃ W', (Instr.mapUpdate 104 (.map (some b)) (.int .i64 N) x.val).run Tryz.prog W = .ok () W' ∧ Met D n₀ W' b (c ++ [(N, ct)]) ∧ W.grownBy W' (some b) := by
  have hle := once_le h.once h.key
  obtain ⟨E, e1, e2, e3⟩ := h.map
  have hm := e1.isMap
  obtain ⟨W', hrun, f1, f2⟩ := e1.update Tryz.keyed2 Tryz.underlying104 (by unfold maxLen; omega) (key_i64 h0 h1) (termElem_mk x)
  have hkl : WideAt.IsKeyLit (.int .i64 N) := Tryz.keyed2.key (key_i64 h0 h1)
  refine ⟨W', hrun, ⟨?_, ?_, _, (by simpa using f1), ?_, ?_⟩, f2⟩
  · unfold Once
    rw [List.pairwise_append]
    refine ⟨h.once, by simp, fun p hp r hr => ?_⟩
    simp at hr; subst hr
    exact fun e => hq ⟨p, hp, e⟩
  · intro q hq'
    rcases List.mem_append.1 hq' with hq' | hq'
    · exact h.key q hq'
    · simp at hq'; subst hq'; exact ⟨h0, h1⟩
  · intro M
    by_cases e : M = N
    · subst e
      rw [has_put_same hm hkl]
      simp
    · rw [has_put_other (by simpa using e), e2 M]
      constructor
      · rintro ⟨q, k1, k2⟩; exact ⟨q, List.mem_append_left _ k1, k2⟩
      · rintro ⟨q, k1, k2⟩
        rcases List.mem_append.1 k1 with k1 | k1
        · exact ⟨q, k1, k2⟩
        · simp at k1; subst k1; exact (e k2.symm).elim
  · intro q hq'
    rcases List.mem_append.1 hq' with hq' | hq'
    · obtain ⟨y, k1, k2⟩ := e3 q hq'
      refine ⟨y, fun z => ?_, k2.grown f2 hb⟩
      rw [atKey_put_other (by simpa using fun e => hq ⟨q, hq', e⟩)]
      exact k1 z
    · simp at hq'; subst hq'
      exact ⟨x, fun z => atKey_put_same hm hkl _ _, hx.grown f2 hb⟩
end Go.Proofs.YtcjeeagnfmipgaaGreatDoor

/- The contract of term.matches: what it answers, and what it puts into the map (matT). -/
namespace Go.Proofs.YtcjeeagnfmipgaaGreatDoor
open Go.RowKit Go.Shelf Go.Maps

def matV (N : Int) (ct : List Nd) (c : List (Int × List Nd)) : Bool × List (Int × List Nd) :=
  match c.find? (fun q => decide (q.1 = N)) with
  | some q => (decide (q.2 = ct), c)
  | none => (true, c ++ [(N, ct)])
def matL {α : Type} (f : α → α → List (Int × List Nd) → Bool × List (Int × List Nd)) : List α → List α → List (Int × List Nd) → Bool × List (Int × List Nd)
  | p :: ps, t :: ts, c => if (f p t c).1 then matL f ps ts (f p t c).2 else (false, (f p t c).2)
  | _, _, c => (true, c)
/-- p is matched with t: whether it can be, and what the variables met stand for. -/
def matT : {n : Nat} → Tm n → Tm n → List (Int × List Nd) → Bool × List (Int × List Nd)
  | 0, _, _, c => (true, c)
  | _ + 1, p, t, c => if p.tv.k = 1 then matV p.tv.N (code t) c else if stop p.tv t.tv then matL matT p.kids t.kids c else (false, c)

theorem matL_stop {α : Type} {f : α → α → List (Int × List Nd) → Bool × List (Int × List Nd)} : ∀ (a b : List α) (j : Nat) (u v : α) (c c1 c2 : List (Int × List Nd)), a[j]? = some u → b[j]? = some v → matL f (a.take j) (b.take j) c = (true, c1) → f u v c1 = (false, c2) → matL f a b c = (false, c2) := by
  intro a
  induction a with
  | nil => intro b j u v c c1 c2 h; simp at h
  | cons x a ih =>
    intro b j u v c c1 c2 hu hv h hf
    cases b with
    | nil => simp at hv
    | cons y b =>
      cases j with
      | zero =>
        simp at hu hv; subst hu; subst hv
        simp [matL] at h; subst h
        simp [matL, hf]
      | succ j =>
        simp only [List.take_succ_cons, matL] at h ⊢
        simp only [List.getElem?_cons_succ] at hu hv
        split at h
        · rename_i h1
          rw [if_pos h1]
          exact ih b j u v _ c1 c2 hu hv h hf
        · simp at h
theorem matL_next {α : Type} {f : α → α → List (Int × List Nd) → Bool × List (Int × List Nd)} : ∀ (a b : List α) (j : Nat) (u v : α) (c c1 c2 : List (Int × List Nd)), a[j]? = some u → b[j]? = some v → matL f (a.take j) (b.take j) c = (true, c1) → f u v c1 = (true, c2) → matL f (a.take (j + 1)) (b.take (j + 1)) c = (true, c2) := by
  intro a
  induction a with
  | nil => intro b j u v c c1 c2 h; simp at h
  | cons x a ih =>
    intro b j u v c c1 c2 hu hv h hf
    cases b with
    | nil => simp at hv
    | cons y b =>
      cases j with
      | zero =>
        simp at hu hv; subst hu; subst hv
        simp [matL] at h; subst h
        simp [matL, hf]
      | succ j =>
        simp only [List.take_succ_cons, matL] at h ⊢
        simp only [List.getElem?_cons_succ] at hu hv
        split at h
        · rename_i h1
          rw [if_pos h1]
          have := ih b j u v _ c1 c2 hu hv h hf
          simpa using this
        · simp at h
theorem IsT.lim {n₀ : Nat} {W : World} : ∀ {n : Nat} {t : Tm n}, IsT n₀ W t → n ≤ 2199023255552
  | 0, t, _ => Empty.elim t
  | _ + 1, _, h => h.2.1.2.2

theorem two_new (w : World) (x y : TV) : ∃ W2, (w.alloc (.cells #[.int .i64 x.k, .int .i64 x.N, .string x.s, .slice x.a x.len x.cap] 24)).alloc (.cells #[.int .i64 y.k, .int .i64 y.N, .string y.s, .slice y.a y.len y.cap] 24) = W2 ∧ Below w.heap.size w W2 ∧ BoxT W2 w.heap.size x ∧ BoxT W2 (w.heap.size + 1) y ∧ W2.heap.size = w.heap.size + 2 := by
  refine ⟨_, rfl, ((Below.refl _ w).alloc (Nat.le_refl _) _).alloc (by simp) _, (BoxT.new w x).alloc _, ?_, by simp⟩
  have := BoxT.new (w.alloc (.cells #[.int .i64 x.k, .int .i64 x.N, .string x.s, .slice x.a x.len x.cap] 24)) y
  rw [World.size_alloc] at this
  exact this

set_option maxRecDepth 100000 in
set_option maxHeartbeats 1000000 in
/-- A variable that was met. -/
theorem matches_old {D n₀ : Nat} {n : Nat} (hDl : D ≤ 2199023255552) (N : Int) (s : ByteArray) (a : Option Addr) (len cap : Nat) (t : Tm n) (W : World) (b : Nat) (c : List (Int × List Nd)) (q : Int × List Nd) (hD : n ≤ D) (hm : Met D n₀ W b c) (hT : IsT n₀ W t) (hn : n₀ ≤ W.heap.size) (h0 : 0 ≤ N) (h1 : N ≤ 1099511627776)
    (hq : ∃ q ∈ c, q.1 = N) (hf : c.find? (fun q => decide (q.1 = N)) = some q) :
    Calls Tryz.prog 70 #[.agg #[.int .i64 1, .int .i64 N, .string s, .slice a len cap], t.tv.val, .map (some b)] W fun e W' => e = .returned (.bool (decide (q.2 = code t))) ∧ Below W.heap.size W W' := by
  obtain ⟨W2, hW2, hB2, hbp, hbt, hs2⟩ := two_new W ⟨1, N, s, a, len, cap⟩ t.tv
  have hm2 := hm.below hB2
  obtain ⟨x, q', hf', hrun, hx⟩ := hm2.look h0 h1 hq
  rw [hf] at hf'
  obtain rfl : q = q' := by simpa using hf'
  obtain ⟨u, hu, huT, huS, huc⟩ := hx _ (Nat.le_refl _) hDl
  have ht2 : IsT W2.heap.size W2 t := (hT.below (hB2.mono hn)).mono (by omega)
  obtain ⟨v, hv, hvT, hvS, hvc⟩ := holdsS_of (S := fun _ => True) ht2 (ht2.blk.mono fun _ _ => trivial) D hD hDl
  have hxu := TV.val_inj hu
  subst hxu
  have hB3 : Below W2.heap.size W2 (W2.alloc (.cells #[.int .i64 u.tv.k, .int .i64 u.tv.N, .string u.tv.s, .slice u.tv.a u.tv.len u.tv.cap] 24)) := (Below.refl _ W2).alloc (Nat.le_refl _) _
  have hord := order_any D u v _ ((huT.below hB3).mono hB3.size) ((hvT.below hB3).mono hB3.size)
  rw [← hv] at hord
  have hres : decide (ordT u v = 0) = decide (q.2 = code t) := by
    rw [decide_eq_decide, ord_zero, sameT_code huT.wl hvT.wl, decide_eq_true_eq, huc, hvc]
  have hbt3 : BoxT (W2.alloc (.cells #[.int .i64 u.tv.k, .int .i64 u.tv.N, .string u.tv.s, .slice u.tv.a u.tv.len u.tv.cap] 24)) (W.heap.size + 1) t.tv := (hB3.block _ hbt.lt).trans hbt
  rw [← hres]
  have p0 := hbp.c0
  have p1 := hbp.c1
  have y0 := hbt3.c0
  have y1 := hbt3.c1
  have y2 := hbt3.c2
  have y3 := hbt3.c3
  simp only at p0 p1
  clear hm hm2 hT hq hf hf' hx huT huS huc ht2 hvT hvS hvc hv hres hbt hbp hbt3 hu h0 h1
  have HB2 := hide hB2
  have HB3 := hide hB3
  clear hB2 hB3
  simp only [TV.val] at hrun hord ⊢
  go_enter Tryz.func70, Tryz.ntmps70
  go_wp2_with fail
  refine hord.mono ?_
  rintro e W4 ⟨rfl, hb4⟩
  clear hord
  have hbf : Below W.heap.size W W4 := (unhide HB2).trans (((unhide HB3).trans (hb4.mono (unhide HB3).size)).mono (unhide HB2).size)
  have HBF := hide hbf
  clear hbf hb4
  go_wp2_with fail
  go_ret
  exact ⟨by congr 2, unhide HBF⟩

set_option maxRecDepth 100000 in
set_option maxHeartbeats 1000000 in
/-- A variable that is new. -/
theorem matches_new {D n₀ : Nat} {n : Nat} (N : Int) (s : ByteArray) (a : Option Addr) (len cap : Nat) (t : Tm n) (W : World) (b : Nat) (c : List (Int × List Nd)) (hD : n ≤ D) (hm : Met D n₀ W b c) (hT : IsT n₀ W t) (hnb : n₀ ≤ b) (h0 : 0 ≤ N) (h1 : N ≤ 1099511627776)
    (hq : ¬ ∃ q ∈ c, q.1 = N) :
    Calls Tryz.prog 70 #[.agg #[.int .i64 1, .int .i64 N, .string s, .slice a len cap], t.tv.val, .map (some b)] W fun e W' => e = .returned (.bool true) ∧ W.grownBy W' (some b) ∧ Met D n₀ W' b (c ++ [(N, code t)]) := by
  have hn : n₀ ≤ W.heap.size := by have := hm.lt; omega
  obtain ⟨W2, hW2, hB2, hbp, hbt, hs2⟩ := two_new W ⟨1, N, s, a, len, cap⟩ t.tv
  have hm2 := hm.below hB2
  have hrun := hm2.miss h0 h1 hq
  have hB3 : Below W2.heap.size W2 (W2.alloc (.cells #[.int .i64 zeroV.k, .int .i64 zeroV.N, .string zeroV.s, .slice zeroV.a zeroV.len zeroV.cap] 24)) := (Below.refl _ W2).alloc (Nat.le_refl _) _
  have hBa := hB2.trans (hB3.mono hB2.size)
  have ht3 := ((hT.below (hBa.mono hn)).mono (Nat.le_trans hn hBa.size))
  have htS : BlkT (· < n₀) t := hT.blk
  have hx := (holdsS_of ht3 htS).mono hD (fun _ h => h)
  obtain ⟨W4, hup, hm4, hg4⟩ := (hm2.below hB3).put hnb h0 h1 hq hx
  have hbt3 : BoxT (W2.alloc (.cells #[.int .i64 zeroV.k, .int .i64 zeroV.N, .string zeroV.s, .slice zeroV.a zeroV.len zeroV.cap] 24)) (W.heap.size + 1) t.tv := (hB3.block _ hbt.lt).trans hbt
  have hbp3 : BoxT (W2.alloc (.cells #[.int .i64 zeroV.k, .int .i64 zeroV.N, .string zeroV.s, .slice zeroV.a zeroV.len zeroV.cap] 24)) W.heap.size ⟨1, N, s, a, len, cap⟩ := (hB3.block _ hbp.lt).trans hbp
  have hgf : W.grownBy W4 (some b) := grown_trans (below_grown b hBa) (hg4)
  have p0 := hbp.c0
  have p1 := hbp.c1
  have p3 := hbp3.c1
  have y0 := hbt3.c0
  have y1 := hbt3.c1
  have y2 := hbt3.c2
  have y3 := hbt3.c3
  have HF := hide (And.intro hgf hm4)
  simp only [zeroV] at p0 p1 p3 y0 y1 y2 y3 hrun hup
  clear hm hm2 hT hq ht3 htS hx hm4 hg4 hgf hBa hB2 hB3 hbt hbp hbt3 hbp3 h0 h1
  simp only [TV.val] at hrun hup ⊢
  go_enter Tryz.func70, Tryz.ntmps70
  go_wp2_with fail
  go_ret
  exact ⟨rfl, unhide HF⟩

theorem wm_var {N : Int} {s : ByteArray} {len : Nat} (h : wmB 1 N s len = true) : 0 ≤ N ∧ N ≤ 1099511627776 := by
  simp [wmB] at h
  omega

set_option maxRecDepth 100000 in
set_option maxHeartbeats 1000000 in
theorem matches_any {D n₀ : Nat} (hDl : D ≤ 2199023255552) : ∀ (n : Nat) (p t : Tm n) (w : World) (b : Nat) (c : List (Int × List Nd)), n ≤ D → Met D n₀ w b c → IsT n₀ w p → IsT n₀ w t → n₀ ≤ b → okT p = true →
    Calls Tryz.prog 70 #[p.tv.val, t.tv.val, .map (some b)] w fun e W' => e = .returned (.bool (matT p t c).1) ∧ w.grownBy W' (some b) ∧ Met D n₀ W' b (matT p t c).2 := by
  intro n
  induction n with
  | zero => intro p; exact Empty.elim p
  | succ n ih =>
    intro p t w b c hD hm hp ht hnb hok
    have hn : n₀ ≤ w.heap.size := by have := hm.lt; omega
    by_cases hk : p.tv.k = 1
    · have hmt : matT p t c = matV p.tv.N (code t) c := by
        obtain ⟨x, kids⟩ := p
        simp only [matT]; rw [if_pos hk]
      rw [hmt]
      obtain ⟨⟨k, N, s, a, len, cap⟩, kids⟩ := p
      simp only [Tm.tv] at hk
      subst hk
      obtain ⟨hwm, _⟩ := ok_kids hok
      obtain ⟨h0, h1⟩ := wm_var hwm
      simp only [Tm.tv, TV.val]
      unfold matV
      by_cases hq : ∃ q ∈ c, q.1 = N
      · obtain ⟨q, hf, _, _⟩ := find_key hq
        rw [hf]
        refine (matches_old hDl N s a len cap t w b c q hD hm ht hn h0 h1 hq hf).mono fun e W' h => ?_
        exact ⟨h.1, below_grown b h.2, hm.below h.2⟩
      · rw [find_no hq]
        exact matches_new N s a len cap t w b c hD hm ht hnb h0 h1 hq
    · obtain ⟨R, hR⟩ : ∃ R, matT p t c = R := ⟨_, rfl⟩
      have hR1 : stop p.tv t.tv = true → R = matL matT p.kids t.kids c := fun h => by
        rw [← hR]
        obtain ⟨x, kids⟩ := p
        simp only [matT]; rw [if_neg hk, if_pos h]
      have hR0 : ¬ stop p.tv t.tv = true → R = (false, c) := fun h => by
        rw [← hR]
        obtain ⟨x, kids⟩ := p
        simp only [matT]; rw [if_neg hk, if_neg h]
      rw [hR]
      clear hR
      obtain ⟨⟨k, kN, s, a, len, cap⟩, kids⟩ := p
      obtain ⟨⟨k', kN', s', a', len', cap'⟩, kids'⟩ := t
      obtain ⟨-, hkok⟩ := ok_kids hok
      obtain ⟨hlen, hmax, hsm, hkids⟩ := hp
      obtain ⟨hlen', hmax', hsm', hkids'⟩ := ht
      simp only [Tm.tv, Tm.kids] at hk hlen hmax hsm hkids hlen' hmax' hsm' hkids' hR1 hR0
      have HI := hide ih
      have HKO := hide hkok
      clear ih hok hkok
      have hk1 : (k == 1) = false := by rw [beq_eq_false_iff_ne]; exact hk
      have htop : Calls Tryz.prog 91 #[.agg #[.int .i64 k, .int .i64 kN, .string s, .slice a len cap], .agg #[.int .i64 k', .int .i64 kN', .string s', .slice a' len' cap']] ((w.alloc (.cells #[.int .i64 k, .int .i64 kN, .string s, .slice a len cap] 24)).alloc (.cells #[.int .i64 k', .int .i64 kN', .string s', .slice a' len' cap'] 24))
          fun e W1 => e = .returned (.int .i64 (otop ⟨k, kN, s, a, len, cap⟩ ⟨k', kN', s', a', len', cap'⟩)) ∧ (Below w.heap.size w W1 ∧ w.heap.size + 2 ≤ W1.heap.size) ∧ W1.cell? ⟨w.heap.size, 3, none⟩ = some (.slice a len cap) ∧ W1.cell? ⟨w.heap.size + 1, 3, none⟩ = some (.slice a' len' cap') :=
        (otop_any ⟨k, kN, s, a, len, cap⟩ ⟨k', kN', s', a', len', cap'⟩ _).mono fun e W1 h =>
          ⟨h.1, two_boxes h.2⟩
      simp only [TV.val, Tm.tv]
      have hz := @otop_zero ⟨k, kN, s, a, len, cap⟩ ⟨k', kN', s', a', len', cap'⟩
      have hll : otop ⟨k, kN, s, a, len, cap⟩ ⟨k', kN', s', a', len', cap'⟩ = 0 → len = len' := by
        intro h
        have := hz.1 h
        simp [stop] at this
        omega
      have hblt := hm.lt
      generalize otop ⟨k, kN, s, a, len, cap⟩ ⟨k', kN', s', a', len', cap'⟩ = o at *
      by_cases ho : o = 0
      · obtain rfl := hR1 (hz.1 ho)
        clear hR1 hR0
        have hlq := hll ho
        have hl1 : len ≤ kids.length := by omega
        have hl2 : kids.length ≤ len := by omega
        have hl3 : len ≤ kids'.length := by omega
        have hl4 : kids'.length ≤ len := by omega
        have hl5 : (len : Int) ≤ len' := by omega
        clear hll hlq hlen hlen' hz hk
        have ho' : (o != 0) = false := by simp [ho]
        clear ho
        have HM := hide hm
        clear hm
        go_enter Tryz.func70, Tryz.ntmps70
        go_wp2_with (go_at_call 91; refine htop.mono ?_; clear htop; rintro e W1 ⟨rfl, ⟨hb1, hzz⟩, hcc, hcd⟩)
        go_loopw [36] (fun i wr => ∃ (j : Nat) (cj : List (Int × List Nd)), j ≤ len ∧ i = .int .i64 j ∧ W1.grownBy wr (some b) ∧ Met D n₀ wr b cj ∧ matL matT (kids.take j) (kids'.take j) c = (true, cj)) (fun i _ => len - (intOf i).toNat)
        case atStart => exact ⟨0, c, Nat.zero_le _, rfl, ⟨rfl, rfl, rfl, Nat.le_refl _, fun _ _ _ => rfl⟩, (unhide HM).below hb1, by simp [matL]⟩
        case round =>
          obtain ⟨j, cj, hj, rfl, hg, hmj, hml⟩ := hrel
          have hgw : w.grownBy wr (some b) := grown_trans (below_grown b hb1) hg
          have hbw : Below n₀ w wr := grown_below hgw hnb hn
          have HMJ := hide hmj
          have HML := hide hml
          clear hmj hml
          by_cases hlt : j < len
          · obtain ⟨u, bk, off, hu, rfl, ⟨c0, c1, c2, c3⟩, hT, hbk⟩ := kid_below hkids hbw hlt hl1
            obtain ⟨v, bk', off', hv, rfl, ⟨d0, d1, d2, d3⟩, hT', hbk'⟩ := kid_below hkids' hbw hlt hl3
            have hne1 : w.heap.size ≠ b := by omega
            have hne2 : w.heap.size + 1 ≠ b := by omega
            have hne3 : bk ≠ b := by omega
            have hne4 : bk' ≠ b := by omega
            replace hcc := (gcell hg w.heap.size 3 (by omega) hne1).trans hcc
            replace hcd := (gcell hg (w.heap.size + 1) 3 (by omega) hne2).trans hcd
            have hj1 : (j : Int) < len := by omega
            have hj2 : (j : Int) < len' := by omega
            have hdr : Below wr.heap.size wr wr.drew := (Below.refl _ wr).drew
            have hsz : n₀ ≤ wr.heap.size := by have := hgw.size; omega
            have ihu : Calls Tryz.prog 70 #[.agg #[.int .i64 u.tv.k, .int .i64 u.tv.N, .string u.tv.s, .slice u.tv.a u.tv.len u.tv.cap], .agg #[.int .i64 v.tv.k, .int .i64 v.tv.N, .string v.tv.s, .slice v.tv.a v.tv.len v.tv.cap], .map (some b)] wr.drew fun e W2 => e = .returned (.bool (matT u v cj).1) ∧ wr.grownBy W2 (some b) ∧ Met D n₀ W2 b (matT u v cj).2 :=
              ((unhide HI) u v wr.drew b cj (by omega) ((unhide HMJ).below hdr) (hT.below (hdr.mono hsz)) (hT'.below (hdr.mono hsz)) hnb ((unhide HKO) u (List.mem_of_getElem? hu))).mono fun e W2 h => ⟨h.1, grown_trans (below_grown b hdr) h.2.1, h.2.2⟩
            have hy1 : w.heap.size < wr.heap.size := by have := hg.size; omega
            have hy2 : w.heap.size + 1 < wr.heap.size := by have := hg.size; omega
            have hy3 : bk < wr.heap.size := by omega
            have hy4 : bk' < wr.heap.size := by omega
            obtain ⟨⟨r, c2'⟩, hr⟩ : ∃ m, matT u v cj = m := ⟨_, rfl⟩
            rw [hr] at ihu
            simp only at ihu
            cases r with
            | true =>
              have hnext := matL_next kids kids' j u v c cj c2' hu hv (unhide HML) hr
              have HN := hide hnext
              clear hkids hkids' hT hT' hu hv hnext hr hdr
              go_wp2_with fail
              go_region_held3 (fun w' => w'.cell? ⟨w.heap.size, 3, none⟩ = some (.slice (some ⟨bk, off, none⟩) len cap) ∧ w'.cell? ⟨w.heap.size + 1, 3, none⟩ = some (.slice (some ⟨bk', off', none⟩) len' cap')
                ∧ w'.cell? ⟨bk, off + j * 4, none⟩ = some (.int .i64 u.tv.k) ∧ w'.cell? ⟨bk, off + j * 4 + 1, none⟩ = some (.int .i64 u.tv.N) ∧ w'.cell? ⟨bk, off + j * 4 + 2, none⟩ = some (.string u.tv.s) ∧ w'.cell? ⟨bk, off + j * 4 + 3, none⟩ = some (.slice u.tv.a u.tv.len u.tv.cap)
                ∧ w'.cell? ⟨bk', off' + j * 4, none⟩ = some (.int .i64 v.tv.k) ∧ w'.cell? ⟨bk', off' + j * 4 + 1, none⟩ = some (.int .i64 v.tv.N) ∧ w'.cell? ⟨bk', off' + j * 4 + 2, none⟩ = some (.string v.tv.s) ∧ w'.cell? ⟨bk', off' + j * 4 + 3, none⟩ = some (.slice v.tv.a v.tv.len v.tv.cap)) (go_keep)
                (first | (go_at_call 70; refine ihu.mono ?_; clear ihu; rintro e W2 ⟨rfl, hg2, hm2⟩; have hbc := gcell hg2))
              have HM2 := hide hm2
              clear hm2 hbc
              go_wp2_with fail
              go_roundw
              case rel => exact ⟨j + 1, c2', by omega, by go_num, grown_trans hg hg2, unhide HM2, unhide HN⟩
              case measure => simp [intOf]; omega
            | false =>
              have hstop := matL_stop kids kids' j u v c cj c2' hu hv (unhide HML) hr
              have HST := hide hstop
              clear hkids hkids' hT hT' hu hv hstop hr hdr
              go_wp2_with fail
              go_region_held3 (fun w' => w'.cell? ⟨w.heap.size, 3, none⟩ = some (.slice (some ⟨bk, off, none⟩) len cap) ∧ w'.cell? ⟨w.heap.size + 1, 3, none⟩ = some (.slice (some ⟨bk', off', none⟩) len' cap')
                ∧ w'.cell? ⟨bk, off + j * 4, none⟩ = some (.int .i64 u.tv.k) ∧ w'.cell? ⟨bk, off + j * 4 + 1, none⟩ = some (.int .i64 u.tv.N) ∧ w'.cell? ⟨bk, off + j * 4 + 2, none⟩ = some (.string u.tv.s) ∧ w'.cell? ⟨bk, off + j * 4 + 3, none⟩ = some (.slice u.tv.a u.tv.len u.tv.cap)
                ∧ w'.cell? ⟨bk', off' + j * 4, none⟩ = some (.int .i64 v.tv.k) ∧ w'.cell? ⟨bk', off' + j * 4 + 1, none⟩ = some (.int .i64 v.tv.N) ∧ w'.cell? ⟨bk', off' + j * 4 + 2, none⟩ = some (.string v.tv.s) ∧ w'.cell? ⟨bk', off' + j * 4 + 3, none⟩ = some (.slice v.tv.a v.tv.len v.tv.cap)) (go_keep)
                (first | (go_at_call 70; refine ihu.mono ?_; clear ihu; rintro e W2 ⟨rfl, hg2, hm2⟩; have hbc := gcell hg2))
              have HM2 := hide hm2
              clear hm2 hbc
              go_wp2_with fail
              go_ret
              rw [unhide HST]
              exact ⟨rfl, grown_trans hgw hg2, unhide HM2⟩
          · have ht : kids.take j = kids := List.take_of_length_le (by omega)
            have ht' : kids'.take j = kids' := List.take_of_length_le (by omega)
            have hml := unhide HML
            rw [ht, ht'] at hml
            have HST := hide hml
            clear ht ht' hml hkids hkids'
            go_wp2_with fail
            go_ret
            rw [unhide HST]
            exact ⟨rfl, hgw, unhide HMJ⟩
      · have ho' : (o != 0) = true := by simp [ho]
        obtain rfl := hR0 (fun h => ho (hz.2 h))
        clear hR1 hR0
        have HM := hide hm
        clear hkids hkids' ho hlen hlen' hll hz hm hk
        go_enter Tryz.func70, Tryz.ntmps70
        go_wp2_with (go_at_call 91; refine htop.mono ?_; clear htop; rintro e W1 ⟨rfl, ⟨hb1, _⟩, _⟩)
        go_ret
        exact ⟨rfl, below_grown b hb1, (unhide HM).below hb1⟩
end Go.Proofs.YtcjeeagnfmipgaaGreatDoor

/- Plain mathematics of matT, sorted rows by their members, and what a list of binds keeps while a map is ranged over. -/
namespace Go.Proofs.YtcjeeagnfmipgaaGreatDoor
open Go.RowKit Go.Shelf Go.Maps

/-- Two sorted rows with the same members, no key twice, are one. -/
theorem up_ext {β : Type} : ∀ {a b : List (Int × β)}, Up a → Once a → Up b → Once b → (∀ q, q ∈ a ↔ q ∈ b) → a = b
  | [], [], _, _, _, _, _ => rfl
  | [], y :: b, _, _, _, _, h => by have := (h y).2 (by simp); cases this
  | x :: a, [], _, _, _, _, h => by have := (h x).1 (by simp); cases this
  | x :: a, y :: b, ua, oa, ub, ob, h => by
    have hxy : x = y := by
      rcases List.mem_cons.1 ((h x).1 (by simp)) with e | e
      · exact e
      · rcases List.mem_cons.1 ((h y).2 (by simp)) with e' | e'
        · exact e'.symm
        · have h1 := (List.pairwise_cons.1 ub).1 x e
          have h2 := (List.pairwise_cons.1 ua).1 y e'
          have h3 := (List.pairwise_cons.1 oa).1 y e'
          omega
    subst hxy
    congr 1
    refine up_ext (List.pairwise_cons.1 ua).2 (List.pairwise_cons.1 oa).2 (List.pairwise_cons.1 ub).2 (List.pairwise_cons.1 ob).2 fun q => ?_
    constructor
    · intro hq
      rcases List.mem_cons.1 ((h q).1 (by simp [hq])) with e | e
      · subst e; exact ((List.pairwise_cons.1 oa).1 q hq rfl).elim
      · exact e
    · intro hq
      rcases List.mem_cons.1 ((h q).2 (by simp [hq])) with e | e
      · subst e; exact ((List.pairwise_cons.1 ob).1 q hq rfl).elim
      · exact e
theorem insF_mem {β : Type} {l : List (Int × β)} {q : Int × β} : q ∈ insF l ↔ q ∈ l := (insF_perm l).mem_iff
theorem insF_once {β : Type} {l : List (Int × β)} (h : Once l) : Once (insF l) := ((insF_perm l).pairwise_iff (fun {_ _} hne => Ne.symm hne)).2 h
theorem insF_same {β : Type} {a b : List (Int × β)} (ha : Once a) (hb : Once b) (h : ∀ q, q ∈ a ↔ q ∈ b) : insF a = insF b :=
  up_ext (insF_up a) (insF_once ha) (insF_up b) (insF_once hb) (fun q => by rw [insF_mem, insF_mem, h q])

/-- Whether a part is well made, by its node. -/
def okNd : Nd → Bool
  | (k, N, s, len) =>
    if k = 1 then decide (0 ≤ N) && decide (N ≤ 1099511627776) && decide (s = []) && ((len : Int) == 0)
    else if k = 2 then decide (s = []) && ((len : Int) == 0)
    else if k = 3 then decide (N = 0) && decide ((s.length : Int) ≤ 100) && ((len : Int) == 0)
    else if k = 4 then decide (N = 0) && decide ((s.length : Int) ≤ 100) && decide (1 ≤ (len : Int)) && decide ((len : Int) ≤ 50)
    else false
theorem bytes_len (s : ByteArray) : s.toList.length = s.size := by rw [ByteArray.toList_eq]; simp
theorem ok_nd (x : TV) : x.ok = okNd x.nd := by
  show wmB x.k x.N x.s x.len = okNd (x.k, x.N, x.s.toList, x.len)
  unfold wmB okNd
  rw [← bytes_len]
theorem matT_var {n : Nat} {p t : Tm (n + 1)} {c : List (Int × List Nd)} (h : p.tv.k = 1) : matT p t c = matV p.tv.N (code t) c := by
  obtain ⟨x, kids⟩ := p
  simp only [matT]; rw [if_pos h]
theorem matT_same {n : Nat} {p t : Tm (n + 1)} {c : List (Int × List Nd)} (h : ¬ p.tv.k = 1) (hs : stop p.tv t.tv = true) : matT p t c = matL matT p.kids t.kids c := by
  obtain ⟨x, kids⟩ := p
  simp only [matT]; rw [if_neg h, if_pos hs]
theorem matT_else {n : Nat} {p t : Tm (n + 1)} {c : List (Int × List Nd)} (h : ¬ p.tv.k = 1) (hs : ¬ stop p.tv t.tv = true) : matT p t c = (false, c) := by
  obtain ⟨x, kids⟩ := p
  simp only [matT]; rw [if_neg h, if_neg hs]
theorem code_kids {n : Nat} (p : Tm (n + 1)) : code p = p.tv.nd :: p.kids.flatMap code := by
  obtain ⟨x, kids⟩ := p
  exact code_succ x kids
theorem ok_kids' {n : Nat} {p : Tm (n + 1)} (h : okT p = true) : ∀ u ∈ p.kids, okT u = true := by
  obtain ⟨x, kids⟩ := p
  exact (ok_kids h).2
theorem okT_code {n : Nat} (t : Tm n) : okT t = (code t).all okNd := by
  unfold okT code
  rw [List.all_map]
  congr 1
  funext x
  exact ok_nd x

theorem matV_len (N : Int) (ct : List Nd) (c : List (Int × List Nd)) : (matV N ct c).2.length ≤ c.length + 1 := by
  unfold matV
  split <;> simp
theorem matL_len {n : Nat} {f : Tm n → Tm n → List (Int × List Nd) → Bool × List (Int × List Nd)} (hf : ∀ p t c, (f p t c).2.length ≤ c.length + (code p).length) : ∀ (ps ts : List (Tm n)) (c : List (Int × List Nd)), (matL f ps ts c).2.length ≤ c.length + (ps.flatMap code).length
  | [], _, c => by simp [matL]
  | p :: ps, [], c => by simp [matL]
  | p :: ps, t :: ts, c => by
    have h1 := hf p t c
    have h2 := matL_len hf ps ts (f p t c).2
    simp only [matL, List.flatMap_cons, List.length_append]
    split
    · omega
    · simp only; omega
theorem matT_len : ∀ {n : Nat} (p t : Tm n) (c : List (Int × List Nd)), (matT p t c).2.length ≤ c.length + (code p).length
  | 0, p, _, _ => Empty.elim p
  | n + 1, p, t, c => by
    have h1 := matV_len p.tv.N (code t) c
    have h2 := matL_len (fun p t c => matT_len (n := n) p t c) p.kids t.kids c
    rw [code_kids, List.length_cons]
    by_cases hk : p.tv.k = 1
    · rw [matT_var hk]; omega
    · by_cases hs : stop p.tv t.tv = true
      · rw [matT_same hk hs]; omega
      · rw [matT_else hk hs]; simp only; omega
/-- What the map gets are parts of t. -/
theorem matL_ok {n : Nat} {f : Tm n → Tm n → List (Int × List Nd) → Bool × List (Int × List Nd)} (hf : ∀ p t c, okT t = true → (∀ q ∈ c, q.2.all okNd = true) → ∀ q ∈ (f p t c).2, q.2.all okNd = true) : ∀ (ps ts : List (Tm n)) (c : List (Int × List Nd)), (∀ t ∈ ts, okT t = true) → (∀ q ∈ c, q.2.all okNd = true) → ∀ q ∈ (matL f ps ts c).2, q.2.all okNd = true
  | [], _, c, _, h => by simpa [matL] using h
  | p :: ps, [], c, _, h => by simpa [matL] using h
  | p :: ps, t :: ts, c, ht, h => by
    have h1 := hf p t c (ht t (by simp)) h
    simp only [matL]
    split
    · exact matL_ok hf ps ts _ (fun u hu => ht u (by simp [hu])) h1
    · exact h1
theorem matT_ok : ∀ {n : Nat} (p t : Tm n) (c : List (Int × List Nd)), okT t = true → (∀ q ∈ c, q.2.all okNd = true) → ∀ q ∈ (matT p t c).2, q.2.all okNd = true
  | 0, p, _, _, _, _ => Empty.elim p
  | n + 1, p, t, c, ht, h => by
    have hk := ok_kids' ht
    have h2 := matL_ok (fun p t c => matT_ok (n := n) p t c) p.kids t.kids c hk h
    by_cases hk : p.tv.k = 1
    · rw [matT_var hk]
      unfold matV
      split
      · exact h
      · intro q hq
        rcases List.mem_append.1 hq with hq | hq
        · exact h q hq
        · simp at hq; subst hq; rw [← okT_code]; exact ht
    · by_cases hs : stop p.tv t.tv = true
      · rw [matT_same hk hs]; exact h2
      · rw [matT_else hk hs]; exact h

/-- A list of binds in memory of its own, while another block is changed. -/
theorem MadeB.grown {D base : Nat} {W W' : World} {v : Value} {l : List (Int × TV)} {c : List (Int × List Nd)} {r : Nat} (h : MadeB D (base ≤ ·) base W v l c) (hg : W.grownBy W' (some r)) (hr : r < base) : MadeB D (base ≤ ·) base W' v l c :=
  ⟨owns_below h.owns (fun g hg' => hg.block g (owns_lt h.owns hg').2 (by have := (owns_lt h.owns hg').1; simp; omega)), fun M hM hlm => by
    obtain ⟨ks, k1, k2, k3⟩ := h.kids M hM hlm
    refine ⟨ks, k1, fun p hp => ?_, k3⟩
    obtain ⟨z1, z2⟩ := k2 p hp
    have z3 := z2.and z1.blk
    exact ⟨(z1.fromS (fun b hb => hg.block b hb.2 (by have := hb.1.2; simp; omega)) z3).mono hg.size, z2⟩⟩
end Go.Proofs.YtcjeeagnfmipgaaGreatDoor

