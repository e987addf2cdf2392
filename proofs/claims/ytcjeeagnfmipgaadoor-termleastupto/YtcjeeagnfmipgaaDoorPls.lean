import Derived.Test.YtcjeeagnfmipgaaDoorMb
import Derived.Laws.OwnMore
import Derived.Laws.AppendOwnNone
/- The contract of hornref.place. -/
namespace Go.Proofs.YtcjeeagnfmipgaaDoor
open Go.RowKit Go.Shelf

/-- A bind put in where it belongs. -/
def insK {β : Type} (l : List (Int × β)) (n : Int) (y : β) : List (Int × β) := l.takeWhile (fun p => decide (p.1 < n)) ++ (n, y) :: l.dropWhile (fun p => decide (p.1 < n))
theorem insK_at {β : Type} : ∀ (l : List (Int × β)) (n : Int) (y : β) (i : Nat), i ≤ l.length → (∀ k z, l[k]? = some z → k < i → z.1 < n) → (∀ z, l[i]? = some z → ¬ z.1 < n) → insK l n y = l.take i ++ (n, y) :: l.drop i
  | [], n, y, i, hi, _, _ => by simp [insK]
  | p :: l, n, y, 0, _, _, h2 => by
    have := h2 p rfl
    simp [insK, this]
  | p :: l, n, y, i + 1, hi, h1, h2 => by
    have hp : p.1 < n := h1 0 p rfl (by omega)
    have ih := insK_at l n y i (by simpa using hi) (fun k z hz hk => h1 (k + 1) z (by simpa using hz) (by omega)) (fun z hz => h2 z (by simpa using hz))
    simp only [insK] at ih ⊢
    simp [hp, ih]

/-- A list of binds in memory, at every number of storeys from D on: its cells l, its codes c. -/
def SrcB (D : Nat) (W : World) (a : Option Addr) (len : Nat) (l : List (Int × TV)) (c : List (Int × List Nd)) : Prop :=
  D ≤ 2199023255552 ∧ ∀ M, D ≤ M → M ≤ 2199023255552 → ∃ ks : List (Int × Tm M), IsL W.heap.size W a len ks ∧ cb ks = c ∧ ks.map (fun p => (p.1, p.2.tv)) = l
theorem SrcB.below {D : Nat} {W W' : World} {a : Option Addr} {len : Nat} {l : List (Int × TV)} {c : List (Int × List Nd)} (h : SrcB D W a len l c) (hb : Below W.heap.size W W') : SrcB D W' a len l c := ⟨h.1, fun M hM hlm => by
  obtain ⟨ks, h1, h2, h3⟩ := h.2 M hM hlm
  exact ⟨ks, (h1.below hb).mono hb.size, h2, h3⟩⟩
theorem SrcB.len {D : Nat} {W : World} {a : Option Addr} {len : Nat} {l : List (Int × TV)} {c : List (Int × List Nd)} (h : SrcB D W a len l c) : len = l.length ∧ c.length = len ∧ len ≤ 9223372036854775807 := by
  obtain ⟨ks, h1, h2, h3⟩ := h.2 D (Nat.le_refl _) h.1
  have e1 : l.length = ks.length := by rw [← h3]; simp
  have e2 : c.length = ks.length := by rw [← h2]; simp [cb]
  have := h1.1
  exact ⟨by omega, by omega, h1.2.1⟩
theorem isL_mem {n₀ : Nat} {W : World} {n : Nat} {a : Option Addr} {len : Nat} {bs : List (Int × Tm n)} (h : IsL n₀ W a len bs) : ∀ p ∈ bs, IsT n₀ W p.2 := fun p hp => by
  obtain ⟨j, hj⟩ := List.mem_iff_getElem?.1 hp
  obtain ⟨_, _, h3⟩ := h
  rcases h3 with h3 | ⟨_, _, _, _, hk⟩
  · rw [h3] at hp; cases hp
  · exact (hk j p hj).2.2
/-- A part of them, for an append. -/
theorem SrcB.part {D : Nat} {W W6 : World} {a : Option Addr} {len : Nat} {l : List (Int × TV)} {c : List (Int × List Nd)} (h : SrcB D W a len l c) (hb : Below W.heap.size W W6) {v : Value} (hv : ∀ g, v.ownBlock = some g → W.heap.size ≤ g) (i m : Nat) :
    ∀ M, D ≤ M → M ≤ 2199023255552 → ∃ ks : List (Int × Tm M), ks.map (fun p => (p.1, p.2.tv)) = (l.drop i).take m ∧ (∀ p ∈ ks, IsT W6.heap.size W6 p.2 ∧ BlkT (fun b => v.ownBlock ≠ some b ∧ b < W.heap.size) p.2) ∧ cb ks = (c.drop i).take m := fun M hM hlm => by
  obtain ⟨ks, h1, h2, h3⟩ := h.2 M hM hlm
  refine ⟨(ks.drop i).take m, by rw [← h3]; simp, fun p hp => ?_, by rw [← h2]; simp [cb]⟩
  have hT := isL_mem h1 p (List.mem_of_mem_drop (List.mem_of_mem_take hp))
  exact ⟨(hT.below hb).mono hb.size, hT.blk.mono fun b hb' => ⟨fun e => by have := hv b e; omega, hb'⟩⟩
/-- The cells of a part of them. -/
theorem SrcB.cells {D : Nat} {W : World} {b off : Nat} {len : Nat} {l : List (Int × TV)} {c : List (Int × List Nd)} (h : SrcB D W (some ⟨b, off, none⟩) len l c) (i : Nat) : ∀ j u, ((l.drop i).flatMap bRow)[j]? = some u → W.cell? ⟨b, off + i * 5 + j, none⟩ = some u := by
  intro j u hj
  obtain ⟨ks, h1, h2, h3⟩ := h.2 D (Nat.le_refl _) h.1
  have hjl := (List.getElem?_eq_some_iff.1 hj).1
  rw [bRow_len] at hjl
  have hdl : (l.drop i).length = l.length - i := by simp
  have hq : j / 5 < (l.drop i).length := by omega
  obtain ⟨p, hp⟩ : ∃ p, (l.drop i)[j / 5]? = some p := ⟨_, List.getElem?_eq_getElem hq⟩
  have hr := bRow_at (l.drop i) (j / 5) p hp (j % 5)
  have hlt5 : j % 5 < (bRow p).length := by simp [bRow, TV.row]; omega
  have hu : (bRow p)[j % 5]? = some u := by
    have h4 := hr _ (List.getElem?_eq_getElem hlt5)
    rw [show j / 5 * 5 + j % 5 = j by omega, hj] at h4
    rw [List.getElem?_eq_getElem hlt5, h4]
  rw [List.getElem?_drop] at hp
  obtain ⟨z, hz, hzp⟩ : ∃ z, ks[i + j / 5]? = some z ∧ (z.1, z.2.tv) = p := by
    rw [← h3, List.getElem?_map] at hp
    exact Option.map_eq_some_iff.1 hp
  obtain ⟨_, _, hk⟩ := h1
  have hne : ks ≠ [] := by rintro rfl; simp at hz
  obtain ⟨b', off', ha, _, hk⟩ := hk.resolve_left hne
  simp at ha
  obtain ⟨rfl, rfl⟩ := ha
  obtain ⟨k1, ⟨k2, k3, k4, k5⟩, _⟩ := hk _ z hz
  subst hzp
  have e5 : j % 5 = 0 ∨ j % 5 = 1 ∨ j % 5 = 2 ∨ j % 5 = 3 ∨ j % 5 = 4 := by omega
  rcases e5 with e | e | e | e | e
  · rw [e] at hu; simp [bRow] at hu; subst hu; rw [show off + i * 5 + j = off + (i + j / 5) * 5 by omega]; exact k1
  · rw [e] at hu; simp [bRow, TV.row] at hu; subst hu; rw [show off + i * 5 + j = off + (i + j / 5) * 5 + 1 by omega]; exact k2
  · rw [e] at hu; simp [bRow, TV.row] at hu; subst hu; rw [show off + i * 5 + j = off + (i + j / 5) * 5 + 1 + 1 by omega]; exact k3
  · rw [e] at hu; simp [bRow, TV.row] at hu; subst hu; rw [show off + i * 5 + j = off + (i + j / 5) * 5 + 1 + 2 by omega]; exact k4
  · rw [e] at hu; simp [bRow, TV.row] at hu; subst hu; rw [show off + i * 5 + j = off + (i + j / 5) * 5 + 1 + 3 by omega]; exact k5

theorem TV.val_inj {x y : TV} (h : x.val = y.val) : x = y := by
  cases x; cases y; simpa [TV.val] using h
/-- One of them, for an append. -/
theorem HoldsS.one {D : Nat} {S : Nat → Prop} {W W6 : World} {x : TV} {ct : List Nd} (h : HoldsS D S W x.val ct) (hb : Below W.heap.size W W6) {v : Value} (hv : ∀ g, v.ownBlock = some g → W.heap.size ≤ g) (N : Int) :
    ∀ M, D ≤ M → M ≤ 2199023255552 → ∃ ks : List (Int × Tm M), ks.map (fun p => (p.1, p.2.tv)) = [(N, x)] ∧ (∀ p ∈ ks, IsT W6.heap.size W6 p.2 ∧ BlkT (fun b => v.ownBlock ≠ some b ∧ b < W.heap.size) p.2) ∧ cb ks = [(N, ct)] := fun M hM hlm => by
  obtain ⟨t, h1, h2, h3, h4⟩ := h M hM hlm
  refine ⟨[(N, t)], by simp [TV.val_inj h1], fun p hp => ?_, by simp [cb, h4]⟩
  simp at hp
  subst hp
  exact ⟨(h2.below hb).mono hb.size, h2.blk.mono fun b hb' => ⟨fun e => by have := hv b e; omega, hb'⟩⟩
theorem SrcB.keys {D : Nat} {W : World} {a : Option Addr} {len : Nat} {l : List (Int × TV)} {c : List (Int × List Nd)} (h : SrcB D W a len l c) : ∀ (k : Nat) z, c[k]? = some z → ∃ y, l[k]? = some (z.1, y) := by
  intro k z hz
  obtain ⟨ks, h1, h2, h3⟩ := h.2 D (Nat.le_refl _) h.1
  rw [← h2] at hz
  simp [cb] at hz
  obtain ⟨p, q, hp, rfl⟩ := hz
  exact ⟨q.tv, by rw [← h3, List.getElem?_map, hp]; rfl⟩
theorem SrcB.isNone {D : Nat} {W : World} {len : Nat} {l : List (Int × TV)} {c : List (Int × List Nd)} (h : SrcB D W none len l c) : len = 0 := by
  obtain ⟨ks, h1, h2, h3⟩ := h.2 D (Nat.le_refl _) h.1
  rcases h1.2.2 with h | ⟨_, _, h, _⟩
  · have := h1.1; rw [h] at this; simpa using this
  · cases h
theorem SrcB.addr {D : Nat} {W : World} {A : Addr} {len : Nat} {l : List (Int × TV)} {c : List (Int × List Nd)} (h : SrcB D W (some A) len l c) (hlt : 0 < len) : A = ⟨A.block, A.off, none⟩ := by
  obtain ⟨ks, h1, h2, h3⟩ := h.2 D (Nat.le_refl _) h.1
  rcases h1.2.2 with h | ⟨_, _, h, _⟩
  · have := h1.1; rw [h] at this; simp at this; omega
  · cases h; rfl

end Go.Proofs.YtcjeeagnfmipgaaDoor

/- The contract of hornref.Compose. -/
namespace Go.Proofs.YtcjeeagnfmipgaaDoor
open Go.RowKit Go.Shelf

theorem insK_len {β : Type} (l : List (Int × β)) (n : Int) (y : β) : (insK l n y).length = l.length + 1 := by
  unfold insK
  have := congrArg List.length (List.takeWhile_append_dropWhile (p := fun p : Int × β => decide (p.1 < n)) (l := l))
  simp only [List.length_append, List.length_cons] at *
  omega
/-- A list of binds that is being made: at most k of them. -/
def OutB (D : Nat) (W : World) (v : Value) (k : Nat) (c : List (Int × List Nd)) : Prop :=
  ∃ a len cap l, v = .slice a len cap ∧ SrcB D W a len l c ∧ len ≤ k ∧ len ≤ cap ∧ (a = none → cap = 0)
theorem OutB.zero (D : Nat) (W : World) (hDl : D ≤ 2199023255552 := by omega) : OutB D W (.slice none 0 0) 0 [] :=
  ⟨none, 0, 0, [], rfl, ⟨hDl, fun M _ hlm => ⟨[], ⟨rfl, by omega, .inl rfl⟩, rfl, rfl⟩⟩, Nat.le_refl _, Nat.le_refl _, fun _ => rfl⟩
theorem OutB.below {D : Nat} {W W' : World} {v : Value} {k : Nat} {c : List (Int × List Nd)} (h : OutB D W v k c) (hb : Below W.heap.size W W') : OutB D W' v k c := by
  obtain ⟨a, len, cap, l, h1, h2, h3⟩ := h
  exact ⟨a, len, cap, l, h1, h2.below hb, h3⟩
theorem OutB.more {D : Nat} {W : World} {v : Value} {k k' : Nat} {c : List (Int × List Nd)} (h : OutB D W v k c) (hk : k ≤ k') : OutB D W v k' c := by
  obtain ⟨a, len, cap, l, h1, h2, h3, h4⟩ := h
  exact ⟨a, len, cap, l, h1, h2, by omega, h4⟩
theorem MadeB.out {D : Nat} {S : Nat → Prop} {base : Nat} {W : World} {v : Value} {l : List (Int × TV)} {c : List (Int × List Nd)} (h : MadeB D S base W v l c) {k : Nat} (hk : l.length ≤ k) (hl : k ≤ 1152921504606846976) (hDl : D ≤ 2199023255552 := by omega) : OutB D W v k c := by
  obtain ⟨a, cap, hv, hks⟩ := h.isL (by omega)
  obtain ⟨_, h2⟩ := h.owns
  refine ⟨a, l.length, cap, l, hv, ⟨hDl, fun M hM hlm => ?_⟩, hk, ?_⟩
  · obtain ⟨ks, k1, k2, k3, _⟩ := hks M hM hlm
    exact ⟨ks, k1, k2, k3⟩
  · rcases h2 with ⟨hv', hn⟩ | ⟨g, cap', cur, hv', hg, hb, hnc, _⟩
    · rw [hv'] at hv; simp at hv; obtain ⟨rfl, _, rfl⟩ := hv; exact ⟨by omega, fun _ => rfl⟩
    · rw [hv'] at hv; simp at hv; obtain ⟨rfl, rfl⟩ := hv; exact ⟨hnc, fun h => by cases h⟩
def stepS (cu : List (Int × List Nd)) (c : List (Int × List Nd)) (p : Int × List Nd) : List (Int × List Nd) := if p.2.flatMap (subN (lookC cu)) = [varNd p.1] then c else insK c p.1 (p.2.flatMap (subN (lookC cu)))
def stepU (cs : List (Int × List Nd)) (c : List (Int × List Nd)) (p : Int × List Nd) : List (Int × List Nd) := if (∃ q ∈ cs, q.1 = p.1) ∨ p.2 = [varNd p.1] then c else insK c p.1 p.2
theorem cb_has {n : Nat} {ss : List (Int × Tm n)} {V : Int} : (∃ q ∈ cb ss, q.1 = V) ↔ ∃ p ∈ ss, p.1 = V := by
  constructor
  · rintro ⟨q, hq, h⟩
    obtain ⟨p, hp, rfl⟩ := List.mem_map.1 hq
    exact ⟨p, hp, h⟩
  · rintro ⟨p, hp, h⟩
    exact ⟨_, List.mem_map.2 ⟨p, hp, rfl⟩, h⟩
theorem foldl_take {α β : Type} (f : β → α → β) (b : β) (l : List α) (j : Nat) (x : α) (h : l[j]? = some x) : (l.take (j + 1)).foldl f b = f ((l.take j).foldl f b) x := by
  obtain ⟨hj, rfl⟩ := List.getElem?_eq_some_iff.1 h
  rw [List.take_succ_eq_append_getElem hj, List.foldl_append]; rfl

end Go.Proofs.YtcjeeagnfmipgaaDoor

/- The contract of term.appendBind. -/
namespace Go.Proofs.YtcjeeagnfmipgaaDoor
open Go.RowKit Go.Shelf

/-- A part that is a variable has no Name and no Args. -/
def vOk (x : Nd) : Prop := x.1 = 1 → x.2.2 = ([], 0)
theorem okT_vok {n : Nat} {t : Tm n} (h : okT t = true) : ∀ x ∈ code t, vOk x := by
  intro x hx hk
  obtain ⟨y, hy, rfl⟩ := List.mem_map.1 hx
  have hw : y.ok = true := List.all_eq_true.1 h y hy
  unfold TV.ok at hw
  rcases wm_cases hw with ⟨h1, _, _, h4, h5⟩ | ⟨h1, _⟩ | ⟨h1, _⟩
  · simp [TV.nd, h4, h5]
  · simp only [TV.nd] at hk; omega
  · simp only [TV.nd] at hk; omega
theorem sub_vok {c : List Nd} {cu : List (Int × List Nd)} (h : ∀ x ∈ c, vOk x) (hu : ∀ p ∈ cu, ∀ x ∈ p.2, vOk x) : ∀ x ∈ c.flatMap (subN (lookC cu)), vOk x := by
  intro x hx
  obtain ⟨y, hy, hxy⟩ := List.mem_flatMap.1 hx
  unfold subN at hxy
  split at hxy
  · unfold lookC at hxy
    split at hxy
    · rename_i p hp
      exact hu p (List.mem_of_find?_eq_some hp) x hxy
    · simp at hxy; subst hxy; intro _; rfl
  · simp at hxy; subst hxy; exact h _ hy
theorem holds_var {D : Nat} {S : Nat → Prop} {W : World} {x : TV} {ct : List Nd} (h : HoldsS D S W x.val ct) (hv : ∀ y ∈ ct, vOk y) (N : Int) (hDl : D + 1 ≤ 2199023255552 := by omega) : (x.k = 1 ∧ x.N = N) ↔ ct = [varNd N] := by
  obtain ⟨t, h1, h2, _, h4⟩ := h (D + 1) (by omega) hDl
  obtain ⟨tv, kids⟩ := t
  have hx : x = tv := TV.val_inj h1
  subst hx
  have hc : x.nd :: kids.flatMap code = ct := by rw [← h4]; exact (code_succ x kids).symm
  have hwl : x.len = kids.length := h2.wl.1
  subst hc
  constructor
  · rintro ⟨hk, hN⟩
    have := hv x.nd (by simp) hk
    simp [TV.nd] at this
    have hk0 : kids = [] := List.length_eq_zero_iff.1 (by omega)
    subst hk0
    simp [TV.nd, varNd, hk, hN, this]
  · intro h
    simp [TV.nd, varNd] at h
    exact ⟨h.1.1, h.1.2.1⟩

/-- What appendBind makes of a list of codes. -/
def addC (c : List (Int × List Nd)) (N : Int) (ct : List Nd) : List (Int × List Nd) := if ct = [varNd N] then c else c ++ [(N, ct)]

end Go.Proofs.YtcjeeagnfmipgaaDoor

