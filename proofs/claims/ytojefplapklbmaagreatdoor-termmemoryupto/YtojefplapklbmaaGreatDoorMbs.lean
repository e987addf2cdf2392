import Derived.Test.YtojefplapklbmaaGreatDoorNms
import Derived.Laws.OwnMore
import Derived.Laws.AppendOwnNone
/- Binds that were made one by one, in a row that a call owns (MadeB). -/
namespace Go.Proofs.YtojefplapklbmaaGreatDoor
open Go.RowKit Go.Shelf

/-- A bind's five cells. -/
def bRow (p : Int × TV) : List Value := .int .i64 p.1 :: p.2.row
theorem bRow_at : ∀ (l : List (Int × TV)) (j : Nat) (p : Int × TV), l[j]? = some p → ∀ q u, (bRow p)[q]? = some u → (l.flatMap bRow)[j * 5 + q]? = some u
  | [], j, p, h => by simp at h
  | y :: l, 0, p, h => by
    intro q u hu
    simp at h; subst h
    rw [List.flatMap_cons, List.getElem?_append_left (by have := (List.getElem?_eq_some_iff.1 hu).1; simpa [bRow, TV.row] using this)]
    simpa using hu
  | y :: l, j + 1, p, h => by
    intro q u hu
    have ih := bRow_at l j p (by simpa using h) q u hu
    rw [List.flatMap_cons, List.getElem?_append_right (by simp [bRow, TV.row]; omega)]
    rw [show (j + 1) * 5 + q - (bRow y).length = j * 5 + q by simp [bRow, TV.row]; omega]
    exact ih
theorem bRow_one : ∀ (l : List (Int × TV)), ∀ u ∈ l.flatMap bRow, u.oneCell' = true := by
  intro l u hu
  obtain ⟨p, _, hp⟩ := List.mem_flatMap.1 hu
  simp [bRow, TV.row] at hp
  rcases hp with rfl | rfl | rfl | rfl | rfl <;> rfl
theorem bRow_len (l : List (Int × TV)) : (l.flatMap bRow).length = l.length * 5 := by
  induction l with
  | nil => rfl
  | cons x l ih => rw [List.flatMap_cons, List.length_append, ih]; simp [bRow, TV.row]; omega

structure MadeB (D : Nat) (S : Nat → Prop) (base : Nat) (W : World) (v : Value) (l : List (Int × TV)) (c : List (Int × List Nd)) : Prop where
  owns : W.ownsRow base 82 5 v l.length (l.flatMap bRow)
  kids : ∀ M, D ≤ M → M ≤ 2199023255552 → ∃ ks : List (Int × Tm M), ks.map (fun p => (p.1, p.2.tv)) = l ∧ (∀ p ∈ ks, IsT W.heap.size W p.2 ∧ BlkT (fun b => v.ownBlock ≠ some b ∧ S b) p.2) ∧ cb ks = c
theorem MadeB.zero (D : Nat) (S : Nat → Prop) (base : Nat) (W : World) : MadeB D S base W (.slice none 0 0) [] [] :=
  ⟨⟨rfl, .inl ⟨rfl, rfl⟩⟩, fun _ _ _ => ⟨[], rfl, (fun u hu => by cases hu), rfl⟩⟩

/-- It is a list of binds in memory. -/
theorem MadeB.isL {D : Nat} {S : Nat → Prop} {base : Nat} {W : World} {v : Value} {l : List (Int × TV)} {c : List (Int × List Nd)} (h : MadeB D S base W v l c) (hl : l.length ≤ 1152921504606846976) :
    ∃ a cap, v = .slice a l.length cap ∧ ∀ M, D ≤ M → M ≤ 2199023255552 → ∃ ks : List (Int × Tm M), IsL W.heap.size W a l.length ks ∧ cb ks = c ∧ ks.map (fun p => (p.1, p.2.tv)) = l ∧ ∀ p ∈ ks, BlkT (fun b => v.ownBlock ≠ some b ∧ S b) p.2 := by
  obtain ⟨_, h2⟩ := h.owns
  rcases h2 with ⟨hv, hn⟩ | ⟨g, cap, cur, hv, hg, hb, hnc, _, hcs, htk⟩
  · have hnil : l = [] := List.length_eq_zero_iff.1 hn
    subst hnil
    refine ⟨none, 0, hv, fun M hM hlm => ?_⟩
    obtain ⟨ks, k1, k2, k3⟩ := h.kids M hM hlm
    have hk : ks = [] := by simpa using k1
    exact ⟨ks, ⟨by simp [hk], by simp, .inl hk⟩, k3, k1, fun p hp => (k2 p hp).2⟩
  · refine ⟨some ⟨g, 0, none⟩, cap, hv, fun M hM hlm => ?_⟩
    obtain ⟨ks, k1, k2, k3⟩ := h.kids M hM hlm
    have hkl : l.length = ks.length := by rw [← k1]; simp
    have hc : ∀ q u, (l.flatMap bRow)[q]? = some u → W.cell? ⟨g, q, none⟩ = some u := fun q u hq => by
      rw [← htk, List.getElem?_take] at hq
      split at hq
      · simp [World.cell?, hb]
        simpa using hq
      · cases hq
    refine ⟨ks, ⟨hkl, by omega, .inr ⟨g, 0, rfl, (Array.getElem?_eq_some_iff.1 hb).1, fun j p hp => ?_⟩⟩, k3, k1, fun p hp => (k2 p hp).2⟩
    have hlj : l[j]? = some (p.1, p.2.tv) := by rw [← k1, List.getElem?_map, hp]; rfl
    have hr := bRow_at l j _ hlj
    rw [Nat.zero_add]
    refine ⟨hc _ _ (by simpa using hr 0 _ rfl), ⟨hc _ _ (hr 1 _ rfl), hc _ _ (hr 2 _ rfl), hc _ _ (hr 3 _ rfl), hc _ _ (hr 4 _ rfl)⟩, (k2 p (List.mem_of_getElem? hp)).1⟩

/-- More of them, behind an append. -/
theorem MadeB.next {D base : Nat} {S : Nat → Prop} {W W6 w' : World} {v v' : Value} {l l' : List (Int × TV)} {c c' : List (Int × List Nd)} (h : MadeB D S base W v l c) (hb : Below W.heap.size W W6)
    (hx : ∀ M, D ≤ M → M ≤ 2199023255552 → ∃ ks : List (Int × Tm M), ks.map (fun p => (p.1, p.2.tv)) = l' ∧ (∀ p ∈ ks, IsT W6.heap.size W6 p.2 ∧ BlkT (fun b => v.ownBlock ≠ some b ∧ S b) p.2) ∧ cb ks = c')
    (hown : w'.ownsRow base 82 5 v' (l.length + l'.length) (l.flatMap bRow ++ l'.flatMap bRow)) (hg : W6.grownBy w' v.ownBlock)
    (hbk : v'.ownBlock = v.ownBlock ∨ v'.ownBlock = some W6.heap.size) : MadeB D S base w' v' (l ++ l') (c ++ c') := by
  refine ⟨by simpa [List.flatMap_append] using hown, fun M hM hlm => ?_⟩
  obtain ⟨ks, k1, k2, k3⟩ := h.kids M hM hlm
  obtain ⟨ks', j1, j2, j3⟩ := hx M hM hlm
  have key : ∀ z : Tm M, IsT W6.heap.size W6 z → BlkT (fun b => v.ownBlock ≠ some b ∧ S b) z → IsT w'.heap.size w' z ∧ BlkT (fun b => v'.ownBlock ≠ some b ∧ S b) z := fun z hz hzS => by
    have hz2 := hzS.and hz.blk
    refine ⟨(hz.fromS (fun b hb' => hg.block b hb'.2 (fun e => hb'.1.1 e.symm)) hz2).mono hg.size, hz2.mono fun b hb' => ⟨?_, hb'.1.2⟩⟩
    rcases hbk with e | e
    · rw [e]; exact hb'.1.1
    · rw [e]; intro e'; simp at e'; have := hb'.2; omega
  refine ⟨ks ++ ks', by simp [k1, j1], fun p hp => ?_, by unfold cb at *; simp [k3, j3]⟩
  rcases List.mem_append.1 hp with hp | hp
  · obtain ⟨z1, z2⟩ := k2 p hp
    exact key p.2 ((z1.below hb).mono hb.size) z2
  · obtain ⟨z1, z2⟩ := j2 p hp
    exact key p.2 z1 z2
theorem MadeB.below {D base : Nat} {S : Nat → Prop} {W W' : World} {v : Value} {l : List (Int × TV)} {c : List (Int × List Nd)} (h : MadeB D S base W v l c) (hb : Below W.heap.size W W') : MadeB D S base W' v l c :=
  ⟨owns_below h.owns (fun g hg => hb.block g (owns_lt h.owns hg).2), fun M hM hlm => by
    obtain ⟨ks, k1, k2, k3⟩ := h.kids M hM hlm
    exact ⟨ks, k1, fun p hp => ⟨((k2 p hp).1.below hb).mono hb.size, (k2 p hp).2⟩, k3⟩⟩
theorem MadeB.mono {D D' base : Nat} {S S' : Nat → Prop} {W : World} {v : Value} {l : List (Int × TV)} {c : List (Int × List Nd)} (h : MadeB D S base W v l c) (hD : D ≤ D') (hS : ∀ b, S b → S' b) : MadeB D' S' base W v l c :=
  ⟨h.owns, fun M hM hlm => by
    obtain ⟨ks, k1, k2, k3⟩ := h.kids M (by omega) hlm
    exact ⟨ks, k1, fun p hp => ⟨(k2 p hp).1, (k2 p hp).2.mono fun b hb => ⟨hb.1, hS b hb.2⟩⟩, k3⟩⟩

theorem Tryz.info_bind : (Tryz.prog.info? 82).map (fun i => (i.zero, i.size, i.bytes)) = some (some (.agg #[.int .i64 0, .int .i64 0, .int .i64 0, .string ⟨#[]⟩, .slice none 0 0]), 5, 64) := by kernel_rfl
/-- The cells of one new bind, laid in a block of its own. -/
theorem new_bind {W5 : World} {V : Int} {x : TV} : ∀ j u, ([(V, x)].flatMap bRow)[j]? = some u → (W5.alloc (.cells #[.int .i64 V, .int .i64 x.k, .int .i64 x.N, .string x.s, .slice x.a x.len x.cap] 82)).cell? ((⟨W5.heap.size, 0, none⟩ : Addr).add j) = some u := by
  intro j u hj
  rw [addr_add, Nat.zero_add]
  match j, hj with
  | 0, hj => simp [bRow, TV.row] at hj; subst hj; simp
  | 1, hj => simp [bRow, TV.row] at hj; subst hj; simp
  | 2, hj => simp [bRow, TV.row] at hj; subst hj; simp
  | 3, hj => simp [bRow, TV.row] at hj; subst hj; simp
  | 4, hj => simp [bRow, TV.row] at hj; subst hj; simp
  | j + 5, hj => simp [bRow, TV.row] at hj
end Go.Proofs.YtojefplapklbmaaGreatDoor

/- The contract of hornref.place. -/
namespace Go.Proofs.YtojefplapklbmaaGreatDoor
open Go.RowKit Go.Shelf

/-- A bind put in where it belongs. -/
def insK {β : Type} (l : List (Int × β)) (n : Int) (y : β) : List (Int × β) := l.takeWhile (fun p => decide (p.1 < n)) ++ (n, y) :: l.dropWhile (fun p => decide (p.1 < n))
theorem insK_at {β : Type} : ∀ (l : List (Int × β)) (n : Int) (y : β) (i : Nat), i ≤ l.length → (∀ k z, l[k]? = some z → k < i → z.1 < n) → (∀ z, l[i]? = some z → ¬ z.1 < n) → insK l n y = l.take i ++ (n, y) :: l.drop i
  | [], n, y, i, hi, _, _ => by simp [insK]
  | p :: l, n, y, 0, _, _, h2 => by
    have := h2 p rfl
    simp [insK, this]
  | p :: l, n, y, i + 1, hi, h1, h2 => by
    have hp : p.1 < n := h1 0 p rfl (by omega)
    have ih := insK_at l n y i (by simpa using hi) (fun k z hz hk => h1 (k + 1) z (by simpa using hz) (by omega)) (fun z hz => h2 z (by simpa using hz))
    simp only [insK] at ih ⊢
    simp [hp, ih]

/-- A list of binds in memory, at every number of storeys from D on: its cells l, its codes c. -/
def SrcB (D : Nat) (W : World) (a : Option Addr) (len : Nat) (l : List (Int × TV)) (c : List (Int × List Nd)) : Prop :=
  D ≤ 2199023255552 ∧ ∀ M, D ≤ M → M ≤ 2199023255552 → ∃ ks : List (Int × Tm M), IsL W.heap.size W a len ks ∧ cb ks = c ∧ ks.map (fun p => (p.1, p.2.tv)) = l
theorem SrcB.below {D : Nat} {W W' : World} {a : Option Addr} {len : Nat} {l : List (Int × TV)} {c : List (Int × List Nd)} (h : SrcB D W a len l c) (hb : Below W.heap.size W W') : SrcB D W' a len l c := ⟨h.1, fun M hM hlm => by
  obtain ⟨ks, h1, h2, h3⟩ := h.2 M hM hlm
  exact ⟨ks, (h1.below hb).mono hb.size, h2, h3⟩⟩
theorem SrcB.len {D : Nat} {W : World} {a : Option Addr} {len : Nat} {l : List (Int × TV)} {c : List (Int × List Nd)} (h : SrcB D W a len l c) : len = l.length ∧ c.length = len ∧ len ≤ 9223372036854775807 := by
  obtain ⟨ks, h1, h2, h3⟩ := h.2 D (Nat.le_refl _) h.1
  have e1 : l.length = ks.length := by rw [← h3]; simp
  have e2 : c.length = ks.length := by rw [← h2]; simp [cb]
  have := h1.1
  exact ⟨by omega, by omega, h1.2.1⟩
theorem isL_mem {n₀ : Nat} {W : World} {n : Nat} {a : Option Addr} {len : Nat} {bs : List (Int × Tm n)} (h : IsL n₀ W a len bs) : ∀ p ∈ bs, IsT n₀ W p.2 := fun p hp => by
  obtain ⟨j, hj⟩ := List.mem_iff_getElem?.1 hp
  obtain ⟨_, _, h3⟩ := h
  rcases h3 with h3 | ⟨_, _, _, _, hk⟩
  · rw [h3] at hp; cases hp
  · exact (hk j p hj).2.2
/-- A part of them, for an append. -/
theorem SrcB.part {D : Nat} {W W6 : World} {a : Option Addr} {len : Nat} {l : List (Int × TV)} {c : List (Int × List Nd)} (h : SrcB D W a len l c) (hb : Below W.heap.size W W6) {v : Value} (hv : ∀ g, v.ownBlock = some g → W.heap.size ≤ g) (i m : Nat) :
    ∀ M, D ≤ M → M ≤ 2199023255552 → ∃ ks : List (Int × Tm M), ks.map (fun p => (p.1, p.2.tv)) = (l.drop i).take m ∧ (∀ p ∈ ks, IsT W6.heap.size W6 p.2 ∧ BlkT (fun b => v.ownBlock ≠ some b ∧ b < W.heap.size) p.2) ∧ cb ks = (c.drop i).take m := fun M hM hlm => by
  obtain ⟨ks, h1, h2, h3⟩ := h.2 M hM hlm
  refine ⟨(ks.drop i).take m, by rw [← h3]; simp, fun p hp => ?_, by rw [← h2]; simp [cb]⟩
  have hT := isL_mem h1 p (List.mem_of_mem_drop (List.mem_of_mem_take hp))
  exact ⟨(hT.below hb).mono hb.size, hT.blk.mono fun b hb' => ⟨fun e => by have := hv b e; omega, hb'⟩⟩
/-- The cells of a part of them. -/
theorem SrcB.cells {D : Nat} {W : World} {b off : Nat} {len : Nat} {l : List (Int × TV)} {c : List (Int × List Nd)} (h : SrcB D W (some ⟨b, off, none⟩) len l c) (i : Nat) : ∀ j u, ((l.drop i).flatMap bRow)[j]? = some u → W.cell? ⟨b, off + i * 5 + j, none⟩ = some u := by
  intro j u hj
  obtain ⟨ks, h1, h2, h3⟩ := h.2 D (Nat.le_refl _) h.1
  have hjl := (List.getElem?_eq_some_iff.1 hj).1
  rw [bRow_len] at hjl
  have hdl : (l.drop i).length = l.length - i := by simp
  have hq : j / 5 < (l.drop i).length := by omega
  obtain ⟨p, hp⟩ : ∃ p, (l.drop i)[j / 5]? = some p := ⟨_, List.getElem?_eq_getElem hq⟩
  have hr := bRow_at (l.drop i) (j / 5) p hp (j % 5)
  have hlt5 : j % 5 < (bRow p).length := by simp [bRow, TV.row]; omega
  have hu : (bRow p)[j % 5]? = some u := by
    have h4 := hr _ (List.getElem?_eq_getElem hlt5)
    rw [show j / 5 * 5 + j % 5 = j by omega, hj] at h4
    rw [List.getElem?_eq_getElem hlt5, h4]
  rw [List.getElem?_drop] at hp
  obtain ⟨z, hz, hzp⟩ : ∃ z, ks[i + j / 5]? = some z ∧ (z.1, z.2.tv) = p := by
    rw [← h3, List.getElem?_map] at hp
    exact Option.map_eq_some_iff.1 hp
  obtain ⟨_, _, hk⟩ := h1
  have hne : ks ≠ [] := by rintro rfl; simp at hz
  obtain ⟨b', off', ha, _, hk⟩ := hk.resolve_left hne
  simp at ha
  obtain ⟨rfl, rfl⟩ := ha
  obtain ⟨k1, ⟨k2, k3, k4, k5⟩, _⟩ := hk _ z hz
  subst hzp
  have e5 : j % 5 = 0 ∨ j % 5 = 1 ∨ j % 5 = 2 ∨ j % 5 = 3 ∨ j % 5 = 4 := by omega
  rcases e5 with e | e | e | e | e
  · rw [e] at hu; simp [bRow] at hu; subst hu; rw [show off + i * 5 + j = off + (i + j / 5) * 5 by omega]; exact k1
  · rw [e] at hu; simp [bRow, TV.row] at hu; subst hu; rw [show off + i * 5 + j = off + (i + j / 5) * 5 + 1 by omega]; exact k2
  · rw [e] at hu; simp [bRow, TV.row] at hu; subst hu; rw [show off + i * 5 + j = off + (i + j / 5) * 5 + 1 + 1 by omega]; exact k3
  · rw [e] at hu; simp [bRow, TV.row] at hu; subst hu; rw [show off + i * 5 + j = off + (i + j / 5) * 5 + 1 + 2 by omega]; exact k4
  · rw [e] at hu; simp [bRow, TV.row] at hu; subst hu; rw [show off + i * 5 + j = off + (i + j / 5) * 5 + 1 + 3 by omega]; exact k5

theorem TV.val_inj {x y : TV} (h : x.val = y.val) : x = y := by
  cases x; cases y; simpa [TV.val] using h
/-- One of them, for an append. -/
theorem HoldsS.one {D : Nat} {S : Nat → Prop} {W W6 : World} {x : TV} {ct : List Nd} (h : HoldsS D S W x.val ct) (hb : Below W.heap.size W W6) {v : Value} (hv : ∀ g, v.ownBlock = some g → W.heap.size ≤ g) (N : Int) :
    ∀ M, D ≤ M → M ≤ 2199023255552 → ∃ ks : List (Int × Tm M), ks.map (fun p => (p.1, p.2.tv)) = [(N, x)] ∧ (∀ p ∈ ks, IsT W6.heap.size W6 p.2 ∧ BlkT (fun b => v.ownBlock ≠ some b ∧ b < W.heap.size) p.2) ∧ cb ks = [(N, ct)] := fun M hM hlm => by
  obtain ⟨t, h1, h2, h3, h4⟩ := h M hM hlm
  refine ⟨[(N, t)], by simp [TV.val_inj h1], fun p hp => ?_, by simp [cb, h4]⟩
  simp at hp
  subst hp
  exact ⟨(h2.below hb).mono hb.size, h2.blk.mono fun b hb' => ⟨fun e => by have := hv b e; omega, hb'⟩⟩
theorem SrcB.keys {D : Nat} {W : World} {a : Option Addr} {len : Nat} {l : List (Int × TV)} {c : List (Int × List Nd)} (h : SrcB D W a len l c) : ∀ (k : Nat) z, c[k]? = some z → ∃ y, l[k]? = some (z.1, y) := by
  intro k z hz
  obtain ⟨ks, h1, h2, h3⟩ := h.2 D (Nat.le_refl _) h.1
  rw [← h2] at hz
  simp [cb] at hz
  obtain ⟨p, q, hp, rfl⟩ := hz
  exact ⟨q.tv, by rw [← h3, List.getElem?_map, hp]; rfl⟩
theorem SrcB.isNone {D : Nat} {W : World} {len : Nat} {l : List (Int × TV)} {c : List (Int × List Nd)} (h : SrcB D W none len l c) : len = 0 := by
  obtain ⟨ks, h1, h2, h3⟩ := h.2 D (Nat.le_refl _) h.1
  rcases h1.2.2 with h | ⟨_, _, h, _⟩
  · have := h1.1; rw [h] at this; simpa using this
  · cases h
theorem SrcB.addr {D : Nat} {W : World} {A : Addr} {len : Nat} {l : List (Int × TV)} {c : List (Int × List Nd)} (h : SrcB D W (some A) len l c) (hlt : 0 < len) : A = ⟨A.block, A.off, none⟩ := by
  obtain ⟨ks, h1, h2, h3⟩ := h.2 D (Nat.le_refl _) h.1
  rcases h1.2.2 with h | ⟨_, _, h, _⟩
  · have := h1.1; rw [h] at this; simp at this; omega
  · cases h; rfl

set_option maxRecDepth 100000 in
set_option maxHeartbeats 1000000 in
theorem place_any {D : Nat} (a : Option Addr) (len cap : Nat) (l : List (Int × TV)) (c : List (Int × List Nd)) (N : Int) (x : TV) (ct : List Nd) (S : Nat → Prop) (W : World) (hsrc : SrcB D W a len l c) (hx : HoldsS D S W x.val ct) (hbig : len ≤ 4194304) (hcap : len ≤ cap) (hnil : a = none → cap = 0) :
    Calls Tryz.prog 99 #[.slice a len cap, .int .i64 N, .agg #[.int .i64 x.k, .int .i64 x.N, .string x.s, .slice x.a x.len x.cap]] W fun e W' => ∃ v, e = .returned v ∧ Below W.heap.size W W' ∧ MadeB D (· < W.heap.size) (W.heap.size + 1) W' v (insK l N x) (insK c N ct) := by
  obtain ⟨hl0, hc0, _⟩ := hsrc.len
  have hl1 : len ≤ l.length := by omega
  have hl2 : l.length ≤ len := by omega
  clear hl0
  have hB1 := (Below.refl _ W).alloc (Nat.le_refl _) (.cells #[.int .i64 x.k, .int .i64 x.N, .string x.s, .slice x.a x.len x.cap] 24)
  have hbx := BoxT.new W x
  obtain ⟨i0, hi, hz0, hz1, hz2⟩ := info_parts Tryz.info_bind
  have HS := hide hsrc
  have HX := hide hx
  have HC := hide hc0
  clear hsrc hx hc0
  go_enter Tryz.func99, Tryz.ntmps99
  go_wp2_with fail
  obtain ⟨W1, hW1⟩ : ∃ W1, W.alloc (.cells #[.int .i64 x.k, .int .i64 x.N, .string x.s, .slice x.a x.len x.cap] 24) = W1 := ⟨_, rfl⟩
  have hsz1 : (W.alloc (.cells #[.int .i64 x.k, .int .i64 x.N, .string x.s, .slice x.a x.len x.cap] 24)).heap.size = W.heap.size + 1 := by simp
  rw [hW1] at hB1 hbx hsz1 ⊢
  clear hW1
  have HSZ := hide hsz1
  have HBX := hide hbx
  clear hsz1 hbx
  go_loopw [7, 8] (fun o i wr => ∃ j : Nat, j ≤ len ∧ i = .int .i64 j ∧ (∀ k z, l[k]? = some z → k < j → z.1 < N) ∧ Below (W.heap.size + 1) W1 wr ∧ MadeB D (· < W.heap.size) (W.heap.size + 1) wr o (l.take j) (c.take j)) (fun _ i _ => len - (intOf i).toNat)
  case atStart => exact ⟨0, Nat.zero_le _, rfl, (fun k z _ h => by omega), Below.refl _ _, MadeB.zero _ _ _ _⟩
  case round =>
    obtain ⟨j, hj, rfl, hlow, hb, hm⟩ := hrel
    have hbW : Below W.heap.size W wr := hB1.trans (hb.mono (by omega))
    have hszr : W.heap.size + 1 ≤ wr.heap.size := by have := hb.size; have := unhide HSZ; omega
    have HLOW := hide hlow
    have HM := hide hm
    clear hlow hm
    by_cases hgo : j < len ∧ ∃ z, l[j]? = some z ∧ z.1 < N
    · obtain ⟨hlt, z, hz, hzN⟩ := hgo
      obtain ⟨ks, k1, k2, k3⟩ := (unhide HS).2 D (Nat.le_refl _) (unhide HS).1
      obtain ⟨V, u, b, off, hu, rfl, hbk, hT, c0, c1, c2, c3, c4⟩ := bind_at k1 hbW hlt
      have hzu : z = (V, u.tv) := by
        rw [← k3, List.getElem?_map, hu] at hz
        simpa using hz.symm
      subst hzu
      simp only at hzN
      clear k1 k2 k3 ks hu hT
      have hone : (l.drop j).take 1 = [(V, u.tv)] := by
        rw [List.take_one, List.head?_drop, hz]; rfl
      have htk : l.take (j + 1) = l.take j ++ [(V, u.tv)] := by
        obtain ⟨hjl, hje⟩ := List.getElem?_eq_some_iff.1 hz
        rw [List.take_succ_eq_append_getElem hjl, hje]
      have hctk : c.take (j + 1) = c.take j ++ (c.drop j).take 1 := by
        rw [List.take_add]
      have HZ := hide hz
      have HONE := hide hone
      have HTK := hide htk
      have HCTK := hide hctk
      clear hz hone htk hctk
      have hj1 : (j : Int) < len := by omega
      have hgl : ∀ g, u7.ownBlock = some g → W.heap.size + 1 ≤ g ∧ g < wr.heap.size := fun g hg => owns_lt (unhide HM).owns hg
      have hown5 : (wr.alloc (.cells #[.int .i64 V, .int .i64 u.tv.k, .int .i64 u.tv.N, .string u.tv.s, .slice u.tv.a u.tv.len u.tv.cap] 82)).ownsRow (W.heap.size + 1) 82 5 u7 (l.take j).length ((l.take j).flatMap bRow) :=
        owns_below (unhide HM).owns (fun g hg => Below.heap_alloc _ _ _ (hgl g hg).2)
      have hlt : (l.take j).length ≤ 4194304 := by simp; omega
      have HG := hide hgl
      have HO5 := hide hown5
      clear hgl hown5
      go_wp2_with (at_builtin; go_must (refine wpList_append_own_at _ rfl _ _ 32 rfl (W.heap.size + 1) 82 i0 _ 5 64 Tryz.underlying32 hi hz0 hz1 hz2 rfl (by decide) u7 (l.take j).length ((l.take j).flatMap bRow) rfl (unhide HO5) ⟨wr.heap.size, 0, none⟩ 1 1 ([(V, u.tv)].flatMap bRow) rfl rfl new_bind (bRow_one _) (by unfold maxLen; omega) (by omega) (by simp; omega) ?_; intro v' w1 hown' hgrow hnil' hbk'))
      have hmade := (unhide HM).next ((Below.refl _ wr).alloc (Nat.le_refl _) (.cells #[.int .i64 V, .int .i64 u.tv.k, .int .i64 u.tv.N, .string u.tv.s, .slice u.tv.a u.tv.len u.tv.cap] 82)) ((unhide HS).part (hbW.alloc hbW.size _) (v := u7) (fun g hg => by have := (unhide HG) g hg; omega) j 1) (by rw [unhide HONE]; exact hown') hgrow hbk'
      rw [unhide HONE, ← unhide HTK, ← unhide HCTK] at hmade
      have hbel : Below (W.heap.size + 1) W1 w1 := (hb.alloc hszr _).grown hgrow (by simp; omega) (fun g hg => ((unhide HG) g hg).1)
      exact ⟨⟨j + 1, by omega, by go_num, (fun k z hk hk2 => by
        by_cases e : k = j
        · subst e; rw [unhide HZ] at hk; cases hk; exact hzN
        · exact (unhide HLOW) k z hk (by omega)), hbel, hmade⟩, by simp [intOf]; omega⟩
    · have hge : ∀ z, l[j]? = some z → ¬ z.1 < N := fun z hz h => hgo ⟨by have := (List.getElem?_eq_some_iff.1 hz).1; omega, z, hz, h⟩
      have hi1 := insK_at l N x j (by omega) (unhide HLOW) hge
      have hi2 := insK_at c N ct j (by have := unhide HC; omega) (fun k z hz hk => by obtain ⟨y, hy⟩ := (unhide HS).keys k z hz; exact (unhide HLOW) k _ hy hk) (fun z hz => by obtain ⟨y, hy⟩ := (unhide HS).keys j z hz; exact hge _ hy)
      have HI1 := hide hi1
      have HI2 := hide hi2
      have HGE := hide hge
      clear hi1 hi2 hge hgo
      have hgl : ∀ g, u7.ownBlock = some g → W.heap.size + 1 ≤ g ∧ g < wr.heap.size := fun g hg => owns_lt (unhide HM).owns hg
      have hown5 : (wr.alloc (.cells #[.int .i64 N, .int .i64 x.k, .int .i64 x.N, .string x.s, .slice x.a x.len x.cap] 82)).ownsRow (W.heap.size + 1) 82 5 u7 (l.take j).length ((l.take j).flatMap bRow) :=
        owns_below (unhide HM).owns (fun g hg => Below.heap_alloc _ _ _ (hgl g hg).2)
      have hlt : (l.take j).length ≤ 4194304 := by simp; omega
      have hone1 := (unhide HX).one (hbW.alloc hbW.size (.cells #[.int .i64 N, .int .i64 x.k, .int .i64 x.N, .string x.s, .slice x.a x.len x.cap] 82)) (v := u7) (fun g hg => by have := hgl g hg; omega) N
      have HG := hide hgl
      have HO5 := hide hown5
      have HO1 := hide hone1
      clear hgl hown5 hone1
      have hbx' : BoxT wr W.heap.size x := (hb.block _ (by omega)).trans (unhide HBX)
      have x0 := hbx'.c0
      have x1 := hbx'.c1
      have x2 := hbx'.c2
      have x3 := hbx'.c3
      clear hbx'
      rcases a with _ | ⟨b, off, sub⟩
      · have hlen0 : len = 0 := (unhide HS).isNone
        have hcap0 : cap = 0 := hnil rfl
        subst hlen0 hcap0
        have hj0 : j = 0 := by omega
        subst hj0
        go_wp2_with (at_builtin; first
          | (refine wpList_append_own_at _ rfl _ _ 32 rfl (W.heap.size + 1) 82 i0 _ 5 64 Tryz.underlying32 hi hz0 hz1 hz2 rfl (by decide) u7 (l.take 0).length ((l.take 0).flatMap bRow) rfl (unhide HO5) ⟨wr.heap.size, 0, none⟩ 1 1 ([(N, x)].flatMap bRow) rfl rfl new_bind (bRow_one _) (by unfold maxLen; omega) (by omega) (by simp; omega) ?_; intro v' w1 hown' hgrow hnil' hbk')
          | go_must (refine wpList_append_own_none rfl _ _ 32 rfl (W.heap.size + 1) 82 i0 5 Tryz.underlying32 hi v' _ _ rfl hown' rfl ?_))
        have hmade := (unhide HM).next ((Below.refl _ wr).alloc (Nat.le_refl _) _) (unhide HO1) hown' hgrow hbk'
        have hln : l = [] := List.length_eq_zero_iff.1 (by omega)
        have hcn : c = [] := List.length_eq_zero_iff.1 (by have := unhide HC; omega)
        have hbel : Below (W.heap.size + 1) W1 w1 := (hb.alloc hszr _).grown hgrow (by simp; omega) (fun g hg => ((unhide HG) g hg).1)
        have hfin : MadeB D (· < W.heap.size) (W.heap.size + 1) w1 v' (insK l N x) (insK c N ct) := by
          rw [unhide HI1, unhide HI2]
          simpa [hln, hcn] using hmade
        exact bodyPost_ret (v := v') (by simp [results, Tryz.results99, go_sem]) rfl ⟨v', rfl, hB1.trans (hbel.mono (by omega)), hfin⟩
      · have hdr : (l.drop j).length = len - j := by simp; omega
        have hdt : (l.drop j).take len = l.drop j := List.take_of_length_le (by omega)
        have hct : (c.drop j).take len = c.drop j := List.take_of_length_le (by have := unhide HC; simp; omega)
        have hcells : ∀ i u, ((l.drop j).flatMap bRow)[i]? = some u → W.cell? (((⟨b, off, sub⟩ : Addr).add (j * 5)).add i) = some u := fun i u hi => by
          have h1 := (List.getElem?_eq_some_iff.1 hi).1
          rw [bRow_len] at h1
          have hA := (unhide HS).addr (by omega)
          simp at hA
          subst hA
          simpa [addr_add] using (unhide HS).cells j i u hi
        have HDR := hide hdr
        have HDT := hide hdt
        have HCT := hide hct
        have HCE := hide hcells
        clear hdr hdt hct hcells
        by_cases hlast : len ≤ j
        · have hj1 : ¬ (j : Int) < len := by omega
          obtain ⟨ad, had⟩ : ∃ ad : Addr, (if cap = j then some (⟨b, off, sub⟩ : Addr) else some ((⟨b, off, sub⟩ : Addr).add (j * 5))) = some ad := by split <;> exact ⟨_, rfl⟩
          have HAD := hide had
          clear had
          go_wp2_with (at_builtin; first
            | (refine wpList_append_own_at _ rfl _ _ 32 rfl (W.heap.size + 1) 82 i0 _ 5 64 Tryz.underlying32 hi hz0 hz1 hz2 rfl (by decide) u7 (l.take j).length ((l.take j).flatMap bRow) rfl (unhide HO5) ⟨wr.heap.size, 0, none⟩ 1 1 ([(N, x)].flatMap bRow) rfl rfl new_bind (bRow_one _) (by unfold maxLen; omega) (by omega) (by simp; omega) ?_; intro v' w1 hown' hgrow hnil' hbk')
            | go_must (refine wpList_append_own_at _ rfl _ _ 32 rfl (W.heap.size + 1) 82 i0 _ 5 64 Tryz.underlying32 hi hz0 hz1 hz2 rfl (by decide) v' _ _ rfl hown' ad 0 (cap - j) [] (congrArg (fun q => Value.slice q 0 (cap - j)) (unhide HAD)) rfl (fun i u hu => by simp at hu) (fun u hu => by cases hu) (by unfold maxLen; omega) (by omega) (by have := hgrow.size; simp at this; omega) ?_; intro v2 w2 hown2 hgrow2 hnil2 hbk2))
          all_goals
            have hmade := (unhide HM).next ((Below.refl _ wr).alloc (Nat.le_refl _) _) (unhide HO1) hown' hgrow hbk'
            have hmade2 := hmade.next (l' := []) (c' := []) (Below.refl _ w1) (fun M _ hlm => ⟨[], rfl, (fun u hu => by cases hu), rfl⟩) (by simpa using hown2) hgrow2 hbk2
            have hln : l.drop j = [] := List.length_eq_zero_iff.1 (by have := unhide HDR; omega)
            have hcn : c.drop j = [] := List.length_eq_zero_iff.1 (by have := unhide HC; simp; omega)
            have hgl1 : ∀ g, v'.ownBlock = some g → W.heap.size + 1 ≤ g := fun g hg => (owns_lt hmade.owns hg).1
            have hbel : Below (W.heap.size + 1) W1 w1 := (hb.alloc hszr _).grown hgrow (by simp; omega) (fun g hg => ((unhide HG) g hg).1)
            have hbel2 : Below (W.heap.size + 1) W1 w2 := hbel.grown hgrow2 (by have := hgrow.size; simp at this; omega) hgl1
            have hfin : MadeB D (· < W.heap.size) (W.heap.size + 1) w2 v2 (insK l N x) (insK c N ct) := by
              rw [unhide HI1, unhide HI2, hln, hcn]
              simpa using hmade2
            exact bodyPost_ret (v := v2) (by simp [results, Tryz.results99, go_sem]) rfl ⟨v2, rfl, hB1.trans (hbel2.mono (by omega)), hfin⟩
        · have hj1 : (j : Int) < len := by omega
          have hcj : ¬ cap = j := by omega
          have hA := (unhide HS).addr (by omega)
          simp at hA
          subst hA
          obtain ⟨ks, k1, k2, k3⟩ := (unhide HS).2 D (Nat.le_refl _) (unhide HS).1
          obtain ⟨V, u, b', off', hu, hbo, hbk, hT, c0, c1, c2, c3, c4⟩ := bind_at k1 hbW (show j < len by omega)
          simp at hbo
          obtain ⟨rfl, rfl⟩ := hbo
          have hzu : l[j]? = some (V, u.tv) := by rw [← k3, List.getElem?_map, hu]; rfl
          have hVN : ¬ V < N := (unhide HGE) _ hzu
          clear k1 k2 k3 ks hu hT hzu
          go_wp2_with (at_builtin; first
            | (refine wpList_append_own_at _ rfl _ _ 32 rfl (W.heap.size + 1) 82 i0 _ 5 64 Tryz.underlying32 hi hz0 hz1 hz2 rfl (by decide) u7 (l.take j).length ((l.take j).flatMap bRow) rfl (unhide HO5) ⟨wr.heap.size, 0, none⟩ 1 1 ([(N, x)].flatMap bRow) rfl rfl new_bind (bRow_one _) (by unfold maxLen; omega) (by omega) (by simp; omega) ?_; intro v' w1 hown' hgrow hnil' hbk'; have hcw : ∀ i u, ((l.drop j).flatMap bRow)[i]? = some u → w1.cell? ⟨b, off + j * 5 + i, none⟩ = some u := (fun i u hu => (((hbW.alloc hbW.size _).grown hgrow (by simp; omega) (fun g hg => by have := (unhide HG) g hg; omega)).cell (p := ⟨b, off + j * 5 + i, none⟩) hbk).trans ((unhide HS).cells j i u hu)))
            | go_must (refine wpList_append_own_at _ rfl _ _ 32 rfl (W.heap.size + 1) 82 i0 _ 5 64 Tryz.underlying32 hi hz0 hz1 hz2 rfl (by decide) v' _ _ rfl hown' ⟨b, off + j * 5, none⟩ (len - j) (cap - j) ((l.drop j).flatMap bRow) rfl (by rw [bRow_len, unhide HDR]) (fun i u hu => by rw [addr_add]; exact hcw i u hu) (bRow_one _) (by unfold maxLen; omega) (by omega) (by have := hgrow.size; simp at this; omega) ?_; intro v2 w2 hown2 hgrow2 hnil2 hbk2))
          have hmade := (unhide HM).next ((Below.refl _ wr).alloc (Nat.le_refl _) _) (unhide HO1) hown' hgrow hbk'
          have hgl1 : ∀ g, v'.ownBlock = some g → W.heap.size + 1 ≤ g := fun g hg => (owns_lt hmade.owns hg).1
          have hbel : Below (W.heap.size + 1) W1 w1 := (hb.alloc hszr _).grown hgrow (by simp; omega) (fun g hg => ((unhide HG) g hg).1)
          have hprt := (unhide HS).part (hB1.trans (hbel.mono (by omega))) (v := v') (fun g hg => by have := hgl1 g hg; omega) j len
          rw [unhide HDT, unhide HCT] at hprt
          have hmade2 := hmade.next (Below.refl _ w1) hprt (by rw [unhide HDR]; simpa [List.flatMap_append] using hown2) hgrow2 hbk2
          have hbel2 : Below (W.heap.size + 1) W1 w2 := hbel.grown hgrow2 (by have := hgrow.size; simp at this; omega) hgl1
          have hfin : MadeB D (· < W.heap.size) (W.heap.size + 1) w2 v2 (insK l N x) (insK c N ct) := by
            rw [unhide HI1, unhide HI2]
            simpa using hmade2
          exact bodyPost_ret (v := v2) (by simp [results, Tryz.results99, go_sem]) rfl ⟨v2, rfl, hB1.trans (hbel2.mono (by omega)), hfin⟩
end Go.Proofs.YtojefplapklbmaaGreatDoor

