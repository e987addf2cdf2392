import Derived.Test.YtlbobmebbllifaaGreatP
import Derived.Test.YtlbobmebbllifaaGreatGs
import Derived.Maps.AppendAt
import Derived.Test.YtlbobmebbllifaaGreatF
import Derived.Test.YtlbobmebbllifaaGreatBbRs
/- The contracts of term.becoming and its closure: what a variable becomes by a list of binds. -/
namespace Go.Proofs.YtlbobmebbllifaaGreat
set_option maxHeartbeats 1000000
open Go.RowKit Go.Shelf
def cb {n : Nat} (bs : List (Int × Tm n)) : List (Int × List Nd) := bs.map fun p => (p.1, code p.2)
def lookC (c : List (Int × List Nd)) (N : Int) : List Nd := match c.find? (fun p => p.1 == N) with | some p => p.2 | none => [varNd N]
theorem Rises.unique {n : Nat} {bs : List (Int × Tm n)} (h : Rises bs) {i j : Nat} {p q : Int × Tm n} (hi : bs[i]? = some p) (hj : bs[j]? = some q) (e : p.1 = q.1) : i = j := by
 by_cases h1 : i < j
 ·have := h i j p q hi hj h1; omega
 ·by_cases h2 : j < i
  ·have := h j i q p hj hi h2; omega
  ·omega
theorem lookC_some {n : Nat} {bs : List (Int × Tm n)} (h : Rises bs) {i : Nat} {p : Int × Tm n} (hi : bs[i]? = some p) : lookC (cb bs) p.1 = code p.2 := by
 unfold lookC cb
 rw [List.find?_map]
 cases hf : bs.find? ((fun q : Int × List Nd => q.1 == p.1) ∘ fun p => (p.1, code p.2)) with
 | none =>
  have := List.find?_eq_none.1 hf p (List.mem_of_getElem? hi)
  simp at this
 | some q =>
  have hq := List.find?_some hf
  simp at hq
  obtain ⟨j, hj⟩ := List.mem_iff_getElem?.1 (List.mem_of_find?_eq_some hf)
  have e := h.unique hj hi hq
  subst e
  rw [hi] at hj
  cases hj
  rfl
theorem lookC_none {n : Nat} {bs : List (Int × Tm n)} {N : Int} (h : ∀ p ∈ bs, p.1 ≠ N) : lookC (cb bs) N = [varNd N] := by
 unfold lookC cb
 rw [List.find?_map]
 have : bs.find? ((fun q : Int × List Nd => q.1 == N) ∘ fun p => (p.1, code p.2)) = none := List.find?_eq_none.2 fun p hp => by simpa using h p hp
 rw [this]; rfl
theorem becoming_any (a : Option Addr) (len cap : Nat) (w : World) : Calls Tryz.prog 59 #[.slice a len cap] w fun e W' => e = .returned (.func (.func 82) #[] #[.pointer (some ⟨w.heap.size, 0, none⟩)]) ∧ W' = w.alloc (.cells #[.slice a len cap] 120) := by
 go_enter Tryz.func59, Tryz.ntmps59
 go_wp2
 go_ret
 exact ⟨rfl, rfl⟩
theorem below_one {W W1 : World} {o : Obj} (h : Below (W.alloc o).heap.size (W.alloc o) W1) : Below W.heap.size W W1 :=
 ((Below.refl _ W).alloc (Nat.le_refl _) _).trans (h.mono (by simp))
set_option maxRecDepth 100000 in
theorem becoming1_any {n : Nat} (bs : List (Int × Tm n)) (a : Option Addr) (len cap B : Nat) (N : Int) (W : World) (hbox : Boxed W B 120 (.slice a len cap)) (hl : IsL W.heap.size W a len bs) (hri : Rises bs) (hok : ∀ p ∈ bs, okT p.2 = true) :
  Calls Tryz.prog 82 #[.int .i64 N, .pointer (some ⟨B, 0, none⟩)] W fun e W' => ∃ v, e = .returned v ∧ Below W.heap.size W W' ∧ HoldsT (n + 1) W.heap.size W' v (lookC (cb bs) N) := by
 have hbox1 := hbox.alloc (.cells #[.int .i64 0, .int .i64 0, .string ⟨#[]⟩, .slice none 0 0] 24)
 have cB := hbox1.cell
 have hB1 : Below W.heap.size W (W.alloc (.cells #[.int .i64 0, .int .i64 0, .string ⟨#[]⟩, .slice none 0 0] 24)) := (Below.refl _ W).alloc (Nat.le_refl _) _
 have hlt := hbox.lt
 have hnew := World.alloc_heap_new W (.cells #[.int .i64 0, .int .i64 0, .string ⟨#[]⟩, .slice none 0 0] 24)
 have hf := find_any bs a len cap N (W.alloc (.cells #[.int .i64 0, .int .i64 0, .string ⟨#[]⟩, .slice none 0 0] 24)) ((hl.below hB1).mono hB1.size) hri
 go_enter Tryz.func82, Tryz.ntmps82
 have HL := hide hl
 have HRI := hide hri
 have HOK := hide hok
 have HNEW := hide hnew
 have HBOX := hide hbox1
 clear hl hri hok hnew hbox hbox1
 go_wp2_with fail
 refine hf.mono ?_
 clear hf
 rintro e W1 ⟨pos, f, rfl, hb1, h1, h2⟩
 have H1 := hide h1
 have H2 := hide h2
 clear h1 h2 cB
 have hbz : W1.heap[W.heap.size]? = some (.cells #[.int .i64 0, .int .i64 0, .string ⟨#[]⟩, .slice none 0 0] 24 (0, 0)) := (hb1.block W.heap.size (by simp)).trans (unhide HNEW)
 have HBZ := hide hbz
 clear hbz
 have hbo : Boxed W1 B 120 (.slice a len cap) := (hb1.block B (by simp; omega)).trans (unhide HBOX)
 have cB := hbo.cell
 clear hbo
 have hb01 := below_one hb1
 cases f with
 | true =>
  obtain ⟨p, hp, hpN⟩ := (unhide H1) rfl
  have hpl : pos < len := by have := (unhide HL).1; have := (List.getElem?_eq_some_iff.1 hp).1; omega
  obtain ⟨V, u, b, off, hu, rfl, hbk, hT, c0, c1, c2, c3, c4⟩ := bind_at (unhide HL) hb01 hpl
  rw [hu] at hp
  cases hp
  simp only at hpN
  have hcp := copy_any u W1 hT ((unhide HOK) _ (List.mem_of_getElem? hu))
  have hlk := lookC_some (unhide HRI) hu
  simp only at hlk
  rw [hpN] at hlk
  have HLK := hide hlk
  simp only [TV.val] at hcp
  have hj1 : (pos : Int) < len := by omega
  clear hT hu hlk hpN c0
  go_wp2_with fail
  refine hcp.mono ?_
  clear hcp
  rintro e W2 ⟨x, rfl, hb2, hv⟩
  obtain ⟨⟨z0, z1, z2, z3⟩, y0, y1, y2, y3⟩ := zbox_kept ((hb2.block W.heap.size (by have := hb1.size; simp at this; omega)).trans (unhide HBZ))
  have hs1 : W.heap.size + 1 ≤ W1.heap.size := by have := hb1.size; simpa using this
  have hfin : HoldsT (n + 1) W.heap.size (set4 W2 W.heap.size 0 x) x.val (lookC (cb bs) N) := by rw [unhide HLK]; exact (holds_set4 hv (by omega) 0 x).mono (Nat.le_refl _) (by omega)
  have hbf : Below W.heap.size W (set4 W2 W.heap.size 0 x) := set4_below (hb01.trans (hb2.mono hb01.size)) (Nat.le_refl _) 0 x
  have HF := hide hfin
  have HB := hide hbf
  clear hfin hbf hv hb2 hb1 hb01 hB1
  dsimp only [TV.val]
  go_wp2_with fail
  exact bodyPost_ret (v := x.val) (by simp [results, Tryz.results82, go_sem, TV.val, z0, z1, z2, z3]) rfl ⟨x.val, rfl, unhide HB, unhide HF⟩
 | false =>
  have HLK := hide (lookC_none ((unhide H2) rfl))
  have hcp := variable_any N W1
  simp only [TV.val, varV] at hcp
  go_wp2_with fail
  refine hcp.mono ?_
  clear hcp
  rintro e W2 ⟨rfl, hb2⟩
  obtain ⟨⟨z0, z1, z2, z3⟩, y0, y1, y2, y3⟩ := zbox_kept ((hb2.block W.heap.size (by have := hb1.size; simp at this; omega)).trans (unhide HBZ))
  have hfin : HoldsT (n + 1) W.heap.size (set4 W2 W.heap.size 0 (varV N)) (varV N).val (lookC (cb bs) N) := by
   rw [unhide HLK]
   have hh := holds_leaf (varV N) rfl rfl rfl (by simp [varV, ByteArray.size]) W.heap.size (set4 W2 W.heap.size 0 (varV N))
   rw [varV_nd] at hh
   exact hh.mono (by omega) (Nat.le_refl _)
  have hbf : Below W.heap.size W (set4 W2 W.heap.size 0 (varV N)) := set4_below (hb01.trans (hb2.mono hb01.size)) (Nat.le_refl _) 0 _
  have HF := hide hfin
  have HB := hide hbf
  clear hfin hbf hb2 hb1 hb01 hB1
  go_wp2_with fail
  exact bodyPost_ret (v := (varV N).val) (by simp [results, Tryz.results82, go_sem, TV.val, varV, z0, z1, z2, z3]) rfl ⟨(varV N).val, rfl, unhide HB, unhide HF⟩
theorem becoming_becomes {n : Nat} (bs : List (Int × Tm n)) (a : Option Addr) (len cap B : Nat) (w : World) (hbox : Boxed w B 120 (.slice a len cap)) (hl : IsL w.heap.size w a len bs) (hri : Rises bs) (hok : ∀ p ∈ bs, okT p.2 = true) :
  Becomes 82 #[.pointer (some ⟨B, 0, none⟩)] (lookC (cb bs)) (n + 1) w := fun N W _ _ hb =>
 becoming1_any bs a len cap B N W ((hb.block B hbox.lt).trans hbox) ((hl.below hb).mono hb.size) hri hok
/- Terms that share memory (BlkT, HoldsS), lifted to more storeys; rows of terms that a call owns; the contracts of hornref.V and hornref.Find. -/
def Tm.lift : {n : Nat} → Tm n → Tm (n + 1)
 | 0, t => Empty.elim t
 | _ + 1, t => (t.tv, t.kids.map Tm.lift)
def BlkT (S : Nat → Prop) : {n : Nat} → Tm n → Prop
 | 0, _ => True
 | _ + 1, t => (t.kids = [] ∨ ∃ b off, t.tv.a = some ⟨b, off, none⟩ ∧ S b) ∧ ∀ u ∈ t.kids, BlkT S u
theorem BlkT.mono {S S' : Nat → Prop} (h : ∀ b, S b → S' b) : ∀ {n : Nat} {t : Tm n}, BlkT S t → BlkT S' t := by
 intro n
 induction n with
 | zero => intro t; exact Empty.elim t
 | succ n ih =>
  intro t ht
  obtain ⟨h1, h2⟩ := ht
  refine ⟨?_, fun u hu => ih (h2 u hu)⟩
  rcases h1 with h1 | ⟨b, off, ha, hb⟩
  ·exact .inl h1
  ·exact .inr ⟨b, off, ha, h b hb⟩
theorem BlkT.and {S S' : Nat → Prop} : ∀ {n : Nat} {t : Tm n}, BlkT S t → BlkT S' t → BlkT (fun b => S b ∧ S' b) t := by
 intro n
 induction n with
 | zero => intro t; exact Empty.elim t
 | succ n ih =>
  intro t ht ht'
  obtain ⟨h1, h2⟩ := ht
  obtain ⟨k1, k2⟩ := ht'
  refine ⟨?_, fun u hu => ih (h2 u hu) (k2 u hu)⟩
  rcases h1 with h1 | ⟨b, off, ha, hb⟩
  ·exact .inl h1
  ·rcases k1 with k1 | ⟨b', off', ha', hb'⟩
   ·exact .inl k1
   ·rw [ha] at ha'; simp at ha'; obtain ⟨rfl, rfl⟩ := ha'
    exact .inr ⟨b, off, ha, hb, hb'⟩
theorem IsT.blk {n₀ : Nat} {W : World} : ∀ {n : Nat} {t : Tm n}, IsT n₀ W t → BlkT (· < n₀) t := by
 intro n
 induction n with
 | zero => intro t; exact Empty.elim t
 | succ n ih =>
  intro t ht
  obtain ⟨_, _, _, h4⟩ := ht
  rcases h4 with h4 | ⟨b, off, ha, hb, hk⟩
  ·exact ⟨.inl h4, fun u hu => by rw [h4] at hu; cases hu⟩
  ·exact ⟨.inr ⟨b, off, ha, hb⟩, fun u hu => by
    obtain ⟨j, hj⟩ := List.mem_iff_getElem?.1 hu
    exact ih (hk j u hj).2⟩
theorem NewT.blk {lo : Nat} : ∀ {n : Nat} {t : Tm n}, NewT lo t → BlkT (lo ≤ ·) t := by
 intro n
 induction n with
 | zero => intro t; exact Empty.elim t
 | succ n ih =>
  intro t ht
  exact ⟨ht.1, fun u hu => ih (ht.2 u hu)⟩
theorem IsT.fromS {n₀ : Nat} {S : Nat → Prop} {A B : World} (hs : ∀ b, S b → B.heap[b]? = A.heap[b]?) : ∀ {n : Nat} {t : Tm n}, IsT n₀ A t → BlkT S t → IsT n₀ B t := by
 intro n
 induction n with
 | zero => intro t; exact Empty.elim t
 | succ n ih =>
  intro t ht hn
  obtain ⟨h1, h2, h3, h4⟩ := ht
  obtain ⟨k1, k2⟩ := hn
  rcases h4 with h4 | ⟨b, off, ha, hb, hk⟩
  ·exact ⟨h1, h2, h3, .inl h4⟩
  ·rcases k1 with k1 | ⟨b', off', ha', hlo⟩
   ·exact ⟨h1, h2, h3, .inl k1⟩
   ·rw [ha] at ha'
    simp at ha'
    obtain ⟨rfl, rfl⟩ := ha'
    refine ⟨h1, h2, h3, .inr ⟨b, off, ha, hb, fun j u hu => ?_⟩⟩
    obtain ⟨hc, hT⟩ := hk j u hu
    exact ⟨hc.kept (hs b hlo), ih hT (k2 u (List.mem_of_getElem? hu))⟩
theorem lift_tv : ∀ {n : Nat} (t : Tm n), t.lift.tv = t.tv
 | 0, t => Empty.elim t
 | _ + 1, _ => rfl
theorem flatMap_same {α β : Type} {f g : α → List β} : ∀ (l : List α), (∀ u ∈ l, f u = g u) → l.flatMap f = l.flatMap g
 | [], _ => rfl
 | a :: l, h => by rw [List.flatMap_cons, List.flatMap_cons, h a (by simp), flatMap_same l (fun u hu => h u (by simp [hu]))]
theorem lift_code : ∀ {n : Nat} (t : Tm n), code t.lift = code t := by
 intro n
 induction n with
 | zero => intro t; exact Empty.elim t
 | succ n ih =>
  intro t
  obtain ⟨x, kids⟩ := t
  show code (n := n + 1 + 1) ((x, kids.map Tm.lift) : TV × List (Tm (n + 1))) = _
  rw [code_succ, code_succ, List.flatMap_map]
  congr 1
  exact flatMap_same kids (fun u _ => ih u)
theorem lift_isT {n₀ : Nat} {W : World} : ∀ {n : Nat} {t : Tm n}, IsT n₀ W t → n + 1 ≤ 2199023255552 → IsT n₀ W t.lift := by
 intro n
 induction n with
 | zero => intro t; exact Empty.elim t
 | succ n ih =>
  intro t ht hlim
  obtain ⟨x, kids⟩ := t
  obtain ⟨h1, h2, h3, h4⟩ := ht
  simp only [Tm.tv, Tm.kids] at h1 h2 h3 h4
  have hl : x.len = (kids.map Tm.lift).length := by simpa using h1
  rcases h4 with h4 | ⟨b, off, ha, hb, hk⟩
  ·exact ⟨hl, ⟨h2.1, h2.2.1, hlim⟩, h3, .inl (by show kids.map Tm.lift = []; rw [h4]; rfl)⟩
  ·refine ⟨hl, ⟨h2.1, h2.2.1, hlim⟩, h3, .inr ⟨b, off, ha, hb, fun j u hu => ?_⟩⟩
   have hu' : (kids.map Tm.lift)[j]? = some u := hu
   rw [List.getElem?_map] at hu'
   obtain ⟨v, hv, rfl⟩ := Option.map_eq_some_iff.1 hu'
   obtain ⟨k1, k2⟩ := hk j v hv
   exact ⟨by rw [lift_tv]; exact k1, ih k2 (by omega)⟩
theorem lift_blk {S : Nat → Prop} : ∀ {n : Nat} {t : Tm n}, BlkT S t → BlkT S t.lift := by
 intro n
 induction n with
 | zero => intro t; exact Empty.elim t
 | succ n ih =>
  intro t ht
  obtain ⟨x, kids⟩ := t
  obtain ⟨h1, h2⟩ := ht
  refine ⟨?_, fun u hu => ?_⟩
  ·rcases h1 with h1 | h1
   ·exact .inl (by show kids.map Tm.lift = []; rw [show kids = [] from h1]; rfl)
   ·exact .inr h1
  ·have hu' : u ∈ kids.map Tm.lift := hu
   obtain ⟨v, hv, rfl⟩ := List.mem_map.1 hu'
   exact ih (h2 v hv)
def HoldsS (D : Nat) (S : Nat → Prop) (W : World) (v : Value) (c : List Nd) : Prop :=
 ∀ m, D ≤ m → m ≤ 2199023255552 → ∃ t : Tm m, v = t.tv.val ∧ IsT W.heap.size W t ∧ BlkT S t ∧ code t = c
theorem holdsS_of {n : Nat} {t : Tm n} {S : Nat → Prop} {W : World} (hT : IsT W.heap.size W t) (hS : BlkT S t) : HoldsS n S W t.tv.val (code t) := fun m hm hl => by
 obtain ⟨k, rfl⟩ : ∃ k, m = n + k := ⟨m - n, by omega⟩
 clear hm
 induction k with
 | zero => exact ⟨t, rfl, hT, hS, rfl⟩
 | succ k ih =>
  obtain ⟨t', h1, h2, h3, h4⟩ := ih (by omega)
  exact ⟨t'.lift, by rw [lift_tv]; exact h1, lift_isT h2 hl, lift_blk h3, by rw [lift_code]; exact h4⟩
theorem HoldsS.mono {D D' : Nat} {S S' : Nat → Prop} {W : World} {v : Value} {c : List Nd} (h : HoldsS D S W v c) (hD : D ≤ D') (hS : ∀ b, S b → S' b) : HoldsS D' S' W v c := fun m hm hl => by
 obtain ⟨t, h1, h2, h3, h4⟩ := h m (by omega) hl
 exact ⟨t, h1, h2, h3.mono hS, h4⟩
theorem HoldsS.below {D : Nat} {S : Nat → Prop} {A B : World} {v : Value} {c : List Nd} (h : HoldsS D S A v c) (hb : Below A.heap.size A B) : HoldsS D S B v c := fun m hm hl => by
 obtain ⟨t, h1, h2, h3, h4⟩ := h m hm hl
 exact ⟨t, h1, (h2.below hb).mono hb.size, h3, h4⟩
theorem HoldsS.fromS {D : Nat} {S : Nat → Prop} {A B : World} {v : Value} {c : List Nd} (h : HoldsS D S A v c) (hs : ∀ b, S b → b < A.heap.size → B.heap[b]? = A.heap[b]?) (hsz : A.heap.size ≤ B.heap.size) : HoldsS D S B v c := fun m hm hl => by
 obtain ⟨t, h1, h2, h3, h4⟩ := h m hm hl
 exact ⟨t, h1, (h2.fromS (S := fun b => S b ∧ b < A.heap.size) (fun b hb => hs b hb.1 hb.2) (h3.and h2.blk)).mono hsz, h3, h4⟩
/- The contract of hornref.Apply. -/
def TV.row (x : TV) : List Value := [.int .i64 x.k, .int .i64 x.N, .string x.s, .slice x.a x.len x.cap]
theorem row_at : ∀ (l : List TV) (j : Nat) (x : TV), l[j]? = some x → (l.flatMap TV.row)[j * 4]? = some (.int .i64 x.k) ∧ (l.flatMap TV.row)[j * 4 + 1]? = some (.int .i64 x.N) ∧ (l.flatMap TV.row)[j * 4 + 2]? = some (.string x.s) ∧ (l.flatMap TV.row)[j * 4 + 3]? = some (.slice x.a x.len x.cap)
 | [], j, x, h => by simp at h
 | y :: l, 0, x, h => by simp at h; subst h; simp [TV.row]
 | y :: l, j + 1, x, h => by
  have ih := row_at l j x (by simpa using h)
  have hs : ∀ q, ((y :: l).flatMap TV.row)[q + 4]? = (l.flatMap TV.row)[q]? := fun q => by
   rw [List.flatMap_cons, List.getElem?_append_right (by simp [TV.row])]
   simp [TV.row]
  refine ⟨?_, ?_, ?_, ?_⟩
  ·rw [show (j + 1) * 4 = j * 4 + 4 by omega, hs]; exact ih.1
  ·rw [show (j + 1) * 4 + 1 = j * 4 + 1 + 4 by omega, hs]; exact ih.2.1
  ·rw [show (j + 1) * 4 + 2 = j * 4 + 2 + 4 by omega, hs]; exact ih.2.2.1
  ·rw [show (j + 1) * 4 + 3 = j * 4 + 3 + 4 by omega, hs]; exact ih.2.2.2
theorem row_len (l : List TV) : (l.flatMap TV.row).length = l.length * 4 := by
 induction l with
 | nil => rfl
 | cons x l ih => rw [List.flatMap_cons, List.length_append, ih]; simp [TV.row]; omega
theorem owns_cells {W : World} {base : Nat} {v : Value} {l : List TV} (h : W.ownsRow base 24 4 v l.length (l.flatMap TV.row)) :
  (v = .slice none 0 0 ∧ l = []) ∨ ∃ g cap, v = .slice (some ⟨g, 0, none⟩) l.length cap ∧ base ≤ g ∧ g < W.heap.size ∧ ∀ j x, l[j]? = some x → cellsAt W g (j * 4) x := by
 obtain ⟨_, h2⟩ := h
 rcases h2 with ⟨hv, hn⟩ | ⟨g, cap, cur, hv, hg, hb, hnc, _, hcs, htk⟩
 ·exact .inl ⟨hv, List.length_eq_zero_iff.1 hn⟩
 ·refine .inr ⟨g, cap, hv, hg, (Array.getElem?_eq_some_iff.1 hb).1, fun j x hx => ?_⟩
  have hj := (List.getElem?_eq_some_iff.1 hx).1
  have hc : ∀ q u, (l.flatMap TV.row)[q]? = some u → W.cell? ⟨g, q, none⟩ = some u := fun q u hq => by
   rw [← htk, List.getElem?_take] at hq
   split at hq
   ·simp [World.cell?, hb]
    simpa using hq
   ·cases hq
  obtain ⟨r0, r1, r2, r3⟩ := row_at l j x hx
  exact ⟨hc _ _ r0, hc _ _ r1, hc _ _ r2, hc _ _ r3⟩
theorem owns_below {W W' : World} {base : Nat} {e : TypeId} {sz : Nat} {v : Value} {n : Nat} {xs : List Value} (h : W.ownsRow base e sz v n xs) (hb : ∀ g, v.ownBlock = some g → W'.heap[g]? = W.heap[g]?) : W'.ownsRow base e sz v n xs := by
 obtain ⟨h1, h2⟩ := h
 refine ⟨h1, ?_⟩
 rcases h2 with h2 | ⟨g, cap, cur, hv, hg, hbk, r⟩
 ·exact .inl h2
 ·subst hv
  exact .inr ⟨g, cap, cur, rfl, hg, (hb g rfl).trans hbk, r⟩
theorem owns_lt {W : World} {base : Nat} {e : TypeId} {sz : Nat} {v : Value} {n : Nat} {xs : List Value} (h : W.ownsRow base e sz v n xs) {g : Nat} (hg : v.ownBlock = some g) : base ≤ g ∧ g < W.heap.size := by
 obtain ⟨h1, h2⟩ := h
 rcases h2 with ⟨hv, _⟩ | ⟨g', cap, cur, hv, hg', hbk, r⟩
 ·subst hv; simp [Value.ownBlock] at hg
 ·subst hv
  simp [Value.ownBlock] at hg
  subst hg
  exact ⟨hg', (Array.getElem?_eq_some_iff.1 hbk).1⟩
/- The contracts of term.checkAll and term.Compare: the first answers 0 where all that it is handed are terms, else 2; the second the order of two terms. -/
set_option maxHeartbeats 1000000
set_option maxRecDepth 100000
def chkL {n : Nat} (ts : List (Tm n)) : Int := if ts.all okT then 0 else 2
theorem chkL_yes {n : Nat} {ts : List (Tm n)} (h : ts.all okT = true) : chkL ts = 0 := if_pos h
theorem chkL_no {n : Nat} {ts : List (Tm n)} (h : ts.all okT = false) : chkL ts = 2 := if_neg (by simp [h])
theorem chk_zero {n : Nat} {t : Tm n} : chk t = 0 ↔ okT t = true := by
 unfold chk; split <;> simp_all
theorem all_no {n : Nat} {ts : List (Tm n)} {j : Nat} {u : Tm n} (h : ts[j]? = some u) (hu : okT u = false) : ts.all okT = false := by
 rw [List.all_eq_false]
 exact ⟨u, List.mem_of_getElem? h, by simp [hu]⟩
theorem checkAll_any {n : Nat} (ts : List (Tm n)) (a : Option Addr) (len cap : Nat) (w : World) (hlen : len = ts.length) (hmax : len ≤ 9223372036854775807)
  (hts : ts = [] ∨ ∃ b off, a = some ⟨b, off, none⟩ ∧ b < w.heap.size ∧ ∀ j u, ts[j]? = some u → cellsAt w b (off + j * 4) u.tv ∧ IsT w.heap.size w u) :
  Calls Tryz.prog 85 #[.slice a len cap] w fun e W' => e = .returned (.int .i64 (chkL ts)) ∧ Below w.heap.size w W' := by
 have hl1 : len ≤ ts.length := by omega
 have hl2 : ts.length ≤ len := by omega
 clear hlen
 go_enter Tryz.func85, Tryz.ntmps85
 go_wp2_with fail
 go_loopw [8] (fun i wr => ∃ j : Nat, j ≤ len ∧ i = .int .i64 j ∧ (ts.take j).all okT = true ∧ Below w.heap.size w wr) (fun i _ => len - (intOf i).toNat)
 case atStart => exact ⟨0, Nat.zero_le _, rfl, by simp, Below.refl _ _⟩
 case round =>
  obtain ⟨j, hj, rfl, ho, hb⟩ := hrel
  have HO := hide ho
  clear ho
  by_cases hlt : j < len
  ·obtain ⟨u, b, off, hu, rfl, ⟨c0, c1, c2, c3⟩, hT, hbk⟩ := kid_at hts hb hlt hl1
   have hc : Calls Tryz.prog 35 #[.agg #[.int .i64 u.tv.k, .int .i64 u.tv.N, .string u.tv.s, .slice u.tv.a u.tv.len u.tv.cap]] (wr.alloc (.cells #[.int .i64 u.tv.k, .int .i64 u.tv.N, .string u.tv.s, .slice u.tv.a u.tv.len u.tv.cap] 24)) fun e W2 => e = .returned (.int .i64 (chk u)) ∧ Below wr.heap.size wr W2 :=
    (check_any u _ ((hT.below ((Below.refl _ wr).alloc (Nat.le_refl _) _)).mono (by simp))).mono fun e W2 h => ⟨h.1, ((Below.refl _ wr).alloc (Nat.le_refl _) _).trans (h.2.mono (by simp))⟩
   have hstop := all_no hu
   have hnext := take_all ts j u hu
   rw [unhide HO, Bool.true_and] at hnext
   have hcz := @chk_zero _ u
   have hcn := @chk_no _ u
   clear hT hts hu
   generalize chk u = d at *
   generalize okT u = o at *
   have HN := hide hnext
   have HS := hide hstop
   clear hnext hstop
   cases o with
   | true =>
    have hd : d = 0 := hcz.2 rfl
    have hd' : (d != 0) = false := by simp [hd]
    clear hd hcz hcn
    go_wp2_with (go_at_call 35; refine hc.mono ?_; clear hc; rintro e W2 ⟨rfl, hb2⟩)
    go_roundw
    case rel => exact ⟨j + 1, by omega, by go_num, unhide HN, hb.trans (hb2.mono hb.size)⟩
    case measure => simp [intOf]; omega
   | false =>
    have hd : d = 2 := hcn rfl
    clear hcz hcn
    subst hd
    go_wp2_with (go_at_call 35; refine hc.mono ?_; clear hc; rintro e W2 ⟨rfl, hb2⟩)
    go_ret
    exact ⟨ret_int (chkL_no ((unhide HS) (by simp))).symm, hb.trans (hb2.mono hb.size)⟩
  ·have ht : ts.take j = ts := List.take_of_length_le (by omega)
   have HT := hide ht
   clear ht hts
   go_wp2_with fail
   go_ret
   exact ⟨ret_int (by have h := unhide HO; rw [unhide HT] at h; rw [chkL_yes h]), hb⟩
theorem pair_lies {n : Nat} {x y : Tm n} {w : World} (hx : IsT w.heap.size w x) (hy : IsT w.heap.size w y) (W : World) (hb : Below w.heap.size w W) :
  let W' := W.alloc (.cells #[.int .i64 x.tv.k, .int .i64 x.tv.N, .string x.tv.s, .slice x.tv.a x.tv.len x.tv.cap, .int .i64 y.tv.k, .int .i64 y.tv.N, .string y.tv.s, .slice y.tv.a y.tv.len y.tv.cap] 24)
  ([x, y] : List (Tm n)) = [] ∨ ∃ b off, some (⟨W.heap.size, 0, none⟩ : Addr) = some ⟨b, off, none⟩ ∧ b < W'.heap.size ∧ ∀ j u, ([x, y] : List (Tm n))[j]? = some u → cellsAt W' b (off + j * 4) u.tv ∧ IsT W'.heap.size W' u := by
 intro W'
 have hb' : Below w.heap.size w W' := hb.alloc hb.size _
 have hsz : W'.heap.size = W.heap.size + 1 := by simp [W']
 have hle : w.heap.size ≤ W'.heap.size := hb'.size
 refine .inr ⟨W.heap.size, 0, rfl, by omega, fun j u hu => ?_⟩
 match j, hu with
 | 0, hu =>
  simp at hu; subst hu
  exact ⟨⟨by simp [W'], by simp [W'], by simp [W'], by simp [W']⟩, (hx.below hb').mono hle⟩
 | 1, hu =>
  simp at hu; subst hu
  exact ⟨⟨by simp [W'], by simp [W'], by simp [W'], by simp [W']⟩, (hy.below hb').mono hle⟩
 | j + 2, hu => simp at hu
theorem boxes_kept {x y : TV} {w W2 : World} {o : Obj} (hb : Below (((w.alloc (.cells #[.int .i64 x.k, .int .i64 x.N, .string x.s, .slice x.a x.len x.cap] 24)).alloc (.cells #[.int .i64 y.k, .int .i64 y.N, .string y.s, .slice y.a y.len y.cap] 24)).alloc o).heap.size (((w.alloc (.cells #[.int .i64 x.k, .int .i64 x.N, .string x.s, .slice x.a x.len x.cap] 24)).alloc (.cells #[.int .i64 y.k, .int .i64 y.N, .string y.s, .slice y.a y.len y.cap] 24)).alloc o) W2) :
  Below w.heap.size w W2 ∧ BoxT W2 w.heap.size x ∧ BoxT W2 (w.heap.size + 1) y := by
 have hs2 : (((w.alloc (.cells #[.int .i64 x.k, .int .i64 x.N, .string x.s, .slice x.a x.len x.cap] 24)).alloc (.cells #[.int .i64 y.k, .int .i64 y.N, .string y.s, .slice y.a y.len y.cap] 24)).alloc o).heap.size = w.heap.size + 3 := by simp
 rw [hs2] at hb
 have b1 := ((BoxT.new w x).alloc (.cells #[.int .i64 y.k, .int .i64 y.N, .string y.s, .slice y.a y.len y.cap] 24)).alloc o
 have b2 := (BoxT.new (w.alloc (.cells #[.int .i64 x.k, .int .i64 x.N, .string x.s, .slice x.a x.len x.cap] 24)) y).alloc o
 rw [World.size_alloc] at b2
 exact ⟨((((Below.refl _ w).alloc (Nat.le_refl _) _).alloc (by simp) _).alloc (by simp; omega) _).trans (hb.mono (by omega)), (hb.block _ (by omega)).trans b1, (hb.block _ (by omega)).trans b2⟩
theorem checkTwo {n : Nat} (x y : Tm n) (w : World) (hx : IsT w.heap.size w x) (hy : IsT w.heap.size w y) :
  Calls Tryz.prog 85 #[.slice (some ⟨w.heap.size + 1 + 1, 0, none⟩) 2 2] (((w.alloc (.cells #[.int .i64 x.tv.k, .int .i64 x.tv.N, .string x.tv.s, .slice x.tv.a x.tv.len x.tv.cap] 24)).alloc (.cells #[.int .i64 y.tv.k, .int .i64 y.tv.N, .string y.tv.s, .slice y.tv.a y.tv.len y.tv.cap] 24)).alloc (.cells #[.int .i64 x.tv.k, .int .i64 x.tv.N, .string x.tv.s, .slice x.tv.a x.tv.len x.tv.cap, .int .i64 y.tv.k, .int .i64 y.tv.N, .string y.tv.s, .slice y.tv.a y.tv.len y.tv.cap] 24)) fun e W2 => e = .returned (.int .i64 (chkL [x, y])) ∧ Below w.heap.size w W2 ∧ BoxT W2 w.heap.size x.tv ∧ BoxT W2 (w.heap.size + 1) y.tv := by
 have hp := pair_lies hx hy ((w.alloc (.cells #[.int .i64 x.tv.k, .int .i64 x.tv.N, .string x.tv.s, .slice x.tv.a x.tv.len x.tv.cap] 24)).alloc (.cells #[.int .i64 y.tv.k, .int .i64 y.tv.N, .string y.tv.s, .slice y.tv.a y.tv.len y.tv.cap] 24)) (((Below.refl _ w).alloc (Nat.le_refl _) _).alloc (by simp) _)
 simp only [World.size_alloc] at hp
 have h := checkAll_any [x, y] (some ⟨w.heap.size + 1 + 1, 0, none⟩) 2 2 (((w.alloc (.cells #[.int .i64 x.tv.k, .int .i64 x.tv.N, .string x.tv.s, .slice x.tv.a x.tv.len x.tv.cap] 24)).alloc (.cells #[.int .i64 y.tv.k, .int .i64 y.tv.N, .string y.tv.s, .slice y.tv.a y.tv.len y.tv.cap] 24)).alloc (.cells #[.int .i64 x.tv.k, .int .i64 x.tv.N, .string x.tv.s, .slice x.tv.a x.tv.len x.tv.cap, .int .i64 y.tv.k, .int .i64 y.tv.N, .string y.tv.s, .slice y.tv.a y.tv.len y.tv.cap] 24)) rfl (by omega) (by simpa only [World.size_alloc] using hp)
 exact h.mono fun e W2 h => ⟨h.1, boxes_kept h.2⟩
theorem compare_any {n : Nat} (x y : Tm n) (w : World) (hx : IsT w.heap.size w x) (hy : IsT w.heap.size w y) (ox : okT x = true) (oy : okT y = true) :
  Calls Tryz.prog 64 #[x.tv.val, y.tv.val] w fun e W' => e = .returned (.tuple #[.int .i64 (ordT x y), .int .i64 0]) ∧ Below w.heap.size w W' := by
 have hc := checkTwo x y w hx hy
 have h0 : chkL [x, y] = 0 := chkL_yes (by simp [ox, oy])
 rw [h0] at hc
 clear h0 ox oy
 have HX := hide hx
 have HY := hide hy
 clear hx hy
 simp only [TV.val]
 go_enter Tryz.func64, Tryz.ntmps64
 go_wp2_with (go_at_call 85; refine hc.mono ?_; clear hc; rintro e W2 ⟨rfl, hb2, bx, bby⟩; have c0 := bx.c0; have c1 := bx.c1; have c2 := bx.c2; have c3 := bx.c3; have d0 := bby.c0; have d1 := bby.c1; have d2 := bby.c2; have d3 := bby.c3)
 have ho := order_any n x y W2 (((unhide HX).below hb2).mono hb2.size) (((unhide HY).below hb2).mono hb2.size)
 simp only [TV.val] at ho
 refine ho.mono ?_
 rintro e W3 ⟨rfl, hb3⟩
 go_wp2_with fail
 go_ret2
 exact ⟨rfl, hb2.trans (hb3.mono hb2.size)⟩
end Go.Proofs.YtlbobmebbllifaaGreat
