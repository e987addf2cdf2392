import Derived.Test.YtlbobmebbllifaaGreatCs
/- Terms by their parts in a row (code), new memory (NewT), and what it is for a value to hold a term of a given code (HoldsT). -/
namespace Go.Proofs.YtlbobmebbllifaaGreat
open Go.RowKit Go.Shelf
/-- A part without its Args: Kind, N, Name, how many Args. -/
abbrev Nd := Int × Int × List UInt8 × Nat
def TV.nd (x : TV) : Nd := (x.k, x.N, x.s.toList, x.len)
def code {n : Nat} (t : Tm n) : List Nd := (parts t).map TV.nd
theorem code_succ {n : Nat} (x : TV) (kids : List (Tm n)) : code (n := n + 1) ((x, kids) : TV × List (Tm n)) = x.nd :: kids.flatMap code := by
 show (x :: kids.flatMap parts).map TV.nd = _
 rw [List.map_cons, List.map_flatMap]; rfl
def Wl : {n : Nat} → Tm n → Prop
 | 0, _ => True
 | _ + 1, t => t.tv.len = t.kids.length ∧ ∀ u ∈ t.kids, Wl u
theorem IsT.wl {n₀ : Nat} {W : World} : ∀ {n : Nat} {t : Tm n}, IsT n₀ W t → Wl t := by
 intro n
 induction n with
 | zero => intro t; exact Empty.elim t
 | succ n ih =>
  intro t ht
  obtain ⟨h1, _, _, h4⟩ := ht
  refine ⟨h1, fun u hu => ?_⟩
  rcases h4 with h4 | ⟨b, off, _, _, hk⟩
  ·rw [h4] at hu; cases hu
  ·obtain ⟨j, hj⟩ := List.mem_iff_getElem?.1 hu
   exact ih (hk j u hj).2
theorem nd_stop {x y : TV} : x.nd = y.nd ↔ stop x y = true := by
 simp only [TV.nd, stop, Prod.mk.injEq, Bool.and_eq_true, decide_eq_true_eq]
theorem code_same : ∀ (n : Nat) (x y : Tm n), Wl x → Wl y → ∀ r r' : List Nd, code x ++ r = code y ++ r' → sameT x y = true ∧ r = r' := by
 intro n
 induction n with
 | zero => intro x; exact Empty.elim x
 | succ n ih =>
  intro x y hx hy r r' h
  obtain ⟨x, kx⟩ := x
  obtain ⟨y, ky⟩ := y
  obtain ⟨hxl, hxk⟩ := hx
  obtain ⟨hyl, hyk⟩ := hy
  rw [code_succ, code_succ] at h
  simp only [List.cons_append, List.cons.injEq] at h
  obtain ⟨h0, h1⟩ := h
  have hst := nd_stop.1 h0
  have hll : kx.length = ky.length := by
   simp only [TV.nd, Prod.mk.injEq] at h0
   simp only [Tm.tv, Tm.kids] at hxl hyl
   omega
  have key : ∀ (a b : List (Tm n)), a.length = b.length → (∀ u ∈ a, Wl u) → (∀ u ∈ b, Wl u) → a.flatMap code ++ r = b.flatMap code ++ r' → all2 sameT a b = true ∧ r = r' := by
   intro a
   induction a with
   | nil =>
    intro b hl _ _ hh
    cases b with
    | nil => exact ⟨rfl, by simpa using hh⟩
    | cons v b => simp at hl
   | cons u a iha =>
    intro b hl ha hb hh
    cases b with
    | nil => simp at hl
    | cons v b =>
     simp only [List.flatMap_cons, List.append_assoc] at hh
     obtain ⟨k1, k2⟩ := ih u v (ha u (by simp)) (hb v (by simp)) _ _ hh
     obtain ⟨k3, k4⟩ := iha b (by simpa using hl) (fun z hz => ha z (by simp [hz])) (fun z hz => hb z (by simp [hz])) k2
     exact ⟨by simp [all2, k1, k3], k4⟩
  obtain ⟨k1, k2⟩ := key kx ky hll hxk hyk h1
  exact ⟨by simp only [sameT, Tm.tv, Tm.kids, hst, k1, Bool.and_true], k2⟩
theorem same_code : ∀ (n : Nat) (x y : Tm n), sameT x y = true → code x = code y := by
 intro n
 induction n with
 | zero => intro x; exact Empty.elim x
 | succ n ih =>
  intro x y h
  obtain ⟨x, kx⟩ := x
  obtain ⟨y, ky⟩ := y
  simp only [sameT, Tm.tv, Tm.kids, Bool.and_eq_true] at h
  obtain ⟨h1, h2⟩ := h
  rw [code_succ, code_succ, nd_stop.2 h1]
  congr 1
  clear h1
  induction kx generalizing ky with
  | nil => cases ky with
   | nil => rfl
   | cons v b => simp [all2] at h2
  | cons u a iha => cases ky with
   | nil => simp [all2] at h2
   | cons v b =>
    simp only [all2, Bool.and_eq_true] at h2
    simp only [List.flatMap_cons]
    rw [ih u v h2.1, iha b h2.2]
theorem sameT_code {n : Nat} {x y : Tm n} (hx : Wl x) (hy : Wl y) : sameT x y = decide (code x = code y) := by
 rw [Bool.eq_iff_iff, decide_eq_true_eq]
 exact ⟨same_code n x y, fun h => (code_same n x y hx hy [] [] (by rw [h])).1⟩
def NewT (lo : Nat) : {n : Nat} → Tm n → Prop
 | 0, _ => True
 | _ + 1, t => (t.kids = [] ∨ ∃ b off, t.tv.a = some ⟨b, off, none⟩ ∧ lo ≤ b) ∧ ∀ u ∈ t.kids, NewT lo u
theorem NewT.mono {lo lo' : Nat} (h : lo' ≤ lo) : ∀ {n : Nat} {t : Tm n}, NewT lo t → NewT lo' t := by
 intro n
 induction n with
 | zero => intro t; exact Empty.elim t
 | succ n ih =>
  intro t ht
  obtain ⟨h1, h2⟩ := ht
  refine ⟨?_, fun u hu => ih (h2 u hu)⟩
  rcases h1 with h1 | ⟨b, off, ha, hb⟩
  ·exact .inl h1
  ·exact .inr ⟨b, off, ha, by omega⟩
theorem IsT.from {n₀ lo : Nat} {A B : World} (hs : ∀ b, lo ≤ b → B.heap[b]? = A.heap[b]?) : ∀ {n : Nat} {t : Tm n}, IsT n₀ A t → NewT lo t → IsT n₀ B t := by
 intro n
 induction n with
 | zero => intro t; exact Empty.elim t
 | succ n ih =>
  intro t ht hn
  obtain ⟨h1, h2, h3, h4⟩ := ht
  obtain ⟨k1, k2⟩ := hn
  rcases h4 with h4 | ⟨b, off, ha, hb, hk⟩
  ·exact ⟨h1, h2, h3, .inl h4⟩
  ·rcases k1 with k1 | ⟨b', off', ha', hlo⟩
   ·exact ⟨h1, h2, h3, .inl k1⟩
   ·rw [ha] at ha'
    simp at ha'
    obtain ⟨rfl, rfl⟩ := ha'
    have hc : ∀ o, B.cell? ⟨b, o, none⟩ = A.cell? ⟨b, o, none⟩ := fun o => World.cell?_of_block (w := A) (hs b hlo)
    refine ⟨h1, h2, h3, .inr ⟨b, off, ha, hb, fun j u hu => ?_⟩⟩
    obtain ⟨⟨c0, c1, c2, c3⟩, hT⟩ := hk j u hu
    exact ⟨⟨(hc _).trans c0, (hc _).trans c1, (hc _).trans c2, (hc _).trans c3⟩, ih hT (k2 u (List.mem_of_getElem? hu))⟩
def WhT (lo : Nat) (W : World) : {n : Nat} → Tm n → Prop
 | 0, _ => True
 | _ + 1, t => ((t.kids = [] ∧ t.tv.a = none ∧ t.tv.len = 0 ∧ t.tv.cap = 0) ∨ (∃ b arr, lo ≤ b ∧ t.tv.a = some ⟨b, 0, none⟩ ∧ t.tv.cap = t.tv.len ∧ W.heap[b]? = some (Obj.cells arr 24 (0, 0)) ∧ arr.size = t.tv.len * 4)) ∧ ∀ u ∈ t.kids, WhT lo W u
theorem WhT.kept {lo : Nat} {A B : World} (hs : ∀ b, lo ≤ b → b < A.heap.size → B.heap[b]? = A.heap[b]?) : ∀ {n : Nat} {t : Tm n}, WhT lo A t → WhT lo B t := by
 intro n
 induction n with
 | zero => intro t; exact Empty.elim t
 | succ n ih =>
  intro t hw
  obtain ⟨w1, w2⟩ := hw
  refine ⟨?_, fun u hu => ih (w2 u hu)⟩
  rcases w1 with w1 | ⟨b, arr, hlo, ha, hc, hb, hz⟩
  ·exact .inl w1
  ·exact .inr ⟨b, arr, hlo, ha, hc, (hs b hlo (Array.getElem?_eq_some_iff.1 hb).1).trans hb, hz⟩
theorem WhT.mono {lo lo' : Nat} {W : World} (hl : lo' ≤ lo) : ∀ {n : Nat} {t : Tm n}, WhT lo W t → WhT lo' W t := by
 intro n
 induction n with
 | zero => intro t; exact Empty.elim t
 | succ n ih =>
  intro t hw
  obtain ⟨w1, w2⟩ := hw
  refine ⟨?_, fun u hu => ih (w2 u hu)⟩
  rcases w1 with w1 | ⟨b, arr, hlo, h⟩
  ·exact .inl w1
  ·exact .inr ⟨b, arr, Nat.le_trans hl hlo, h⟩
def blks : {n : Nat} → Tm n → List Nat
 | 0, _ => []
 | _ + 1, t => (if t.kids = [] then [] else (t.tv.a.map Addr.block).toList) ++ t.kids.flatMap blks
theorem WhT.blks_in {lo : Nat} {W : World} : ∀ {n : Nat} {t : Tm n}, WhT lo W t → ∀ b ∈ blks t, lo ≤ b ∧ b < W.heap.size ∧ ∃ arr : Array Value, W.heap[b]? = some (Obj.cells arr 24 (0, 0)) := by
 intro n
 induction n with
 | zero => intro t; exact Empty.elim t
 | succ n ih =>
  intro t hw b hb
  obtain ⟨w1, w2⟩ := hw
  have hb' : b ∈ (if t.kids = [] then [] else (t.tv.a.map Addr.block).toList) ++ t.kids.flatMap blks := hb
  rcases List.mem_append.1 hb' with h | h
  ·rcases w1 with w1 | ⟨c, arr, hlo, ha, _, hc, _⟩
   ·rw [if_pos w1.1] at h; cases h
   ·split at h
    ·cases h
    ·rw [ha] at h
     simp at h
     subst h
     exact ⟨hlo, (Array.getElem?_eq_some_iff.1 hc).1, arr, hc⟩
  ·obtain ⟨u, hu, hbu⟩ := List.mem_flatMap.1 h
   exact ih (w2 u hu) b hbu
theorem code_pos {m : Nat} (t : Tm m) : 1 ≤ (code t).length := by
 cases m with
 | zero => exact Empty.elim t
 | succ m => simp [code, parts]
theorem blks_leaf : ∀ {m : Nat} {t : Tm m}, (code t).length = 1 → blks t = [] := by
 intro m t hc
 cases m with
 | zero => exact Empty.elim t
 | succ m =>
  obtain ⟨x, kids⟩ := t
  rw [code_succ] at hc
  cases kids with
  | nil => show (if ([] : List (Tm m)) = [] then [] else (x.a.map Addr.block).toList) ++ [].flatMap blks = []; simp
  | cons u r =>
   have hu := code_pos u
   simp only [List.length_cons, List.flatMap_cons, List.length_append] at hc
   omega
structure NewW (lo : Nat) (W : World) {n : Nat} (t : Tm n) : Prop where
 new : NewT lo t
 wh : WhT lo W t
 ap : (blks t).Nodup
 wl : Wl t
theorem NewW.mono {lo lo' : Nat} {W : World} {n : Nat} {t : Tm n} (h : NewW lo W t) (hl : lo' ≤ lo) : NewW lo' W t := ⟨h.new.mono hl, WhT.mono hl h.wh, h.ap, h.wl⟩
theorem NewW.kept {lo : Nat} {A B : World} {n : Nat} {t : Tm n} (h : NewW lo A t) (hs : ∀ b, lo ≤ b → b < A.heap.size → B.heap[b]? = A.heap[b]?) : NewW lo B t := ⟨h.new, WhT.kept hs h.wh, h.ap, h.wl⟩
theorem NewW.below {lo : Nat} {A B : World} {n : Nat} {t : Tm n} (h : NewW lo A t) (hb : Below A.heap.size A B) : NewW lo B t := h.kept fun b _ hlt => hb.block b hlt
theorem kids_apart {lo : Nat} {W : World} {M : Nat} {ks : List (Tm M)} {u : Tm M} (hk : ∀ (i : Nat) (z : Tm M), ks[i]? = some z → NewW lo W z) (hnd : (ks.flatMap blks).Nodup) {lo' : Nat} {W' : World} (hu : NewW lo' W' u) (hlo : W.heap.size ≤ lo') : ((ks ++ [u]).flatMap blks).Nodup := by
 rw [List.flatMap_append, List.flatMap_cons, List.flatMap_nil, List.append_nil, List.nodup_append]
 refine ⟨hnd, hu.ap, fun b hb b' hb' e => ?_⟩
 obtain ⟨z, hz, hbz⟩ := List.mem_flatMap.1 hb
 obtain ⟨i, hi⟩ := List.mem_iff_getElem?.1 hz
 have h1 := ((hk i z hi).wh.blks_in b hbz).2.1
 have h2 := (hu.wh.blks_in b' hb').1
 omega
theorem row_apart {W : World} {M : Nat} {ks : List (Tm M)} {x : TV} {B lo : Nat} (hx : x.a = some ⟨B, 0, none⟩) (hB : B < lo) (hk : ∀ (i : Nat) (z : Tm M), ks[i]? = some z → NewW lo W z) (hnd : (ks.flatMap blks).Nodup) : (blks (n := M + 1) ((x, ks) : TV × List (Tm M))).Nodup := by
 show ((if ks = [] then [] else (x.a.map Addr.block).toList) ++ ks.flatMap blks).Nodup
 rw [hx]
 split
 ·simpa using hnd
 ·show ([B] ++ ks.flatMap blks).Nodup
  rw [List.cons_append, List.nil_append, List.nodup_cons]
  refine ⟨fun hm => ?_, hnd⟩
  obtain ⟨z, hz, hbz⟩ := List.mem_flatMap.1 hm
  obtain ⟨i, hi⟩ := List.mem_iff_getElem?.1 hz
  have h2 := ((hk i z hi).wh.blks_in B hbz).1
  omega
def IsW (n₀ : Nat) (W : World) {n : Nat} (t : Tm n) : Prop := n ≤ 2199023255552 → IsT n₀ W t
theorem IsW.below {n₀ : Nat} {A B : World} {n : Nat} {t : Tm n} (h : IsW n₀ A t) (hb : Below n₀ A B) : IsW n₀ B t := fun hl => (h hl).below hb
theorem IsW.mono {n₀ n₁ : Nat} {A : World} {n : Nat} {t : Tm n} (h : IsW n₀ A t) (hle : n₀ ≤ n₁) : IsW n₁ A t := fun hl => (h hl).mono hle
theorem IsW.from {n₀ lo : Nat} {A B : World} {n : Nat} {t : Tm n} (h : IsW n₀ A t) (hs : ∀ b, lo ≤ b → B.heap[b]? = A.heap[b]?) (hn : NewT lo t) : IsW n₀ B t := fun hl => (h hl).from hs hn
def HoldsT (D lo : Nat) (W : World) (v : Value) (c : List Nd) : Prop :=
 ∀ m, D ≤ m → ∃ t : Tm m, v = t.tv.val ∧ IsW W.heap.size W t ∧ NewW lo W t ∧ code t = c
theorem HoldsT.below {D lo : Nat} {A B : World} {v : Value} {c : List Nd} (h : HoldsT D lo A v c) (hb : Below A.heap.size A B) : HoldsT D lo B v c := fun m hm => by
 obtain ⟨t, h1, h2, h3, h4⟩ := h m hm
 exact ⟨t, h1, (h2.below hb).mono hb.size, h3.below hb, h4⟩
theorem HoldsT.mono {D D' lo lo' : Nat} {A : World} {v : Value} {c : List Nd} (h : HoldsT D lo A v c) (hD : D ≤ D') (hl : lo' ≤ lo) : HoldsT D' lo' A v c := fun m hm => by
 obtain ⟨t, h1, h2, h3, h4⟩ := h m (by omega)
 exact ⟨t, h1, h2, h3.mono hl, h4⟩
structure TK (lo : Nat) (A B : World) : Prop where
 size : A.heap.size ≤ B.heap.size
 block : ∀ b arr, lo ≤ b → A.heap[b]? = some (Obj.cells arr 24 (0, 0)) → B.heap[b]? = A.heap[b]?
theorem IsT.tk {n₀ lo : Nat} {A B : World} (h : TK lo A B) : ∀ {n : Nat} {t : Tm n}, IsT n₀ A t → WhT lo A t → IsT n₀ B t := by
 intro n
 induction n with
 | zero => intro t; exact Empty.elim t
 | succ n ih =>
  intro t ht hw
  obtain ⟨h1, h2, h3, h4⟩ := ht
  obtain ⟨w1, w2⟩ := hw
  rcases h4 with h4 | ⟨b, off, ha, hb, hk⟩
  ·exact ⟨h1, h2, h3, .inl h4⟩
  ·rcases w1 with w1 | ⟨b', arr, hlo, ha', hcp, hbk, hsz⟩
   ·exact ⟨h1, h2, h3, .inl w1.1⟩
   ·rw [ha] at ha'
    simp at ha'
    obtain ⟨rfl, rfl⟩ := ha'
    have hc : ∀ o, B.cell? ⟨b, o, none⟩ = A.cell? ⟨b, o, none⟩ := fun o => World.cell?_of_block (w := A) (h.block b arr hlo hbk)
    refine ⟨h1, h2, h3, .inr ⟨b, 0, ha, hb, fun j u hu => ?_⟩⟩
    obtain ⟨⟨c0, c1, c2, c3⟩, hT⟩ := hk j u hu
    exact ⟨⟨(hc _).trans c0, (hc _).trans c1, (hc _).trans c2, (hc _).trans c3⟩, ih hT (w2 u (List.mem_of_getElem? hu))⟩
theorem WhT.tk {lo : Nat} {A B : World} (h : TK lo A B) : ∀ {n : Nat} {t : Tm n}, WhT lo A t → WhT lo B t := by
 intro n
 induction n with
 | zero => intro t; exact Empty.elim t
 | succ n ih =>
  intro t hw
  obtain ⟨w1, w2⟩ := hw
  refine ⟨?_, fun u hu => ih (w2 u hu)⟩
  rcases w1 with w1 | ⟨b, arr, hlo, ha, hc, hb, hz⟩
  ·exact .inl w1
  ·exact .inr ⟨b, arr, hlo, ha, hc, (h.block b arr hlo hb).trans hb, hz⟩
theorem NewW.tk {lo : Nat} {A B : World} (h : TK lo A B) {n : Nat} {t : Tm n} (hw : NewW lo A t) : NewW lo B t := ⟨hw.new, WhT.tk h hw.wh, hw.ap, hw.wl⟩
theorem HoldsT.tk {D lo : Nat} {A B : World} {v : Value} {c : List Nd} (h : HoldsT D lo A v c) (hk : TK lo A B) : HoldsT D lo B v c := fun m hm => by
 obtain ⟨t, h1, h2, h3, h4⟩ := h m hm
 exact ⟨t, h1, fun hl => (IsT.tk hk (h2 hl) h3.wh).mono hk.size, h3.tk hk, h4⟩
end Go.Proofs.YtlbobmebbllifaaGreat
