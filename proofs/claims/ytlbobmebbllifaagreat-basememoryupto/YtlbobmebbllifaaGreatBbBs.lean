import Derived.Test.YtlbobmebbllifaaGreatBbMs
import Derived.Test.YtlbobmebbllifaaGreatTs
import Derived.Test.YtlbobmebbllifaaGreatQs
/- What base.makeBody does where a term lies: what it may change, and what stands there then. -/
namespace Go.Proofs.YtlbobmebbllifaaGreat
open Go.RowKit Go.Shelf
def Rows (W : World) : {n : Nat} → Tm n → Prop
 | 0, _ => True
 | _ + 1, t => ((t.kids = [] ∧ t.tv.cap = 0) ∨ ∃ b arr, t.tv.a = some ⟨b, 0, none⟩ ∧ W.heap[b]? = some (Obj.cells arr 24 (0, 0)) ∧ arr.size = t.tv.len * 4 ∧ t.tv.cap = t.tv.len ∧ t.tv.len = t.kids.length) ∧ ∀ u ∈ t.kids, Rows W u
theorem WhT.rows {lo : Nat} {W : World} : ∀ {n : Nat} {t : Tm n}, WhT lo W t → Wl t → Rows W t := by
 intro n
 induction n with
 | zero => intro t; exact Empty.elim t
 | succ n ih =>
  intro t hw hl
  obtain ⟨w1, w2⟩ := hw
  refine ⟨?_, fun u hu => ih (w2 u hu) (hl.2 u hu)⟩
  rcases w1 with w1 | ⟨b, arr, _, ha, hc, hb, hz⟩
  ·exact .inl ⟨w1.1, w1.2.2.2⟩
  ·exact .inr ⟨b, arr, ha, hb, hz, hc, hl.1⟩
theorem blks_succ {n : Nat} (x : TV) (kids : List (Tm n)) : blks (n := n + 1) ((x, kids) : TV × List (Tm n)) = (if kids = [] then [] else (x.a.map Addr.block).toList) ++ kids.flatMap blks := rfl
theorem kid_blks {n : Nat} {x : TV} {kids : List (Tm n)} {u : Tm n} (hu : u ∈ kids) {k : Nat} (hk : k ∈ blks u) : k ∈ blks (n := n + 1) ((x, kids) : TV × List (Tm n)) := by
 rw [blks_succ]
 exact List.mem_append_right _ (List.mem_flatMap.2 ⟨u, hu, hk⟩)
theorem row_blks {n : Nat} {x : TV} {kids : List (Tm n)} (hne : kids ≠ []) {b o : Nat} (ha : x.a = some ⟨b, o, none⟩) : b ∈ blks (n := n + 1) ((x, kids) : TV × List (Tm n)) := by
 rw [blks_succ, if_neg hne, ha]
 simp
theorem blk_of {S : Nat → Prop} {n₀ : Nat} {W : World} : ∀ {n : Nat} {t : Tm n}, IsT n₀ W t → (∀ k ∈ blks t, S k) → BlkT S t := by
 intro n
 induction n with
 | zero => intro t; exact Empty.elim t
 | succ n ih =>
  intro t ht hS
  obtain ⟨x, kids⟩ := t
  obtain ⟨_, _, _, h4⟩ := ht
  rcases h4 with h4 | ⟨b, off, ha, _, hk⟩
  ·exact ⟨.inl h4, fun u hu => by rw [show (Tm.kids (n := n) ((x, kids) : TV × List (Tm n))) = [] from h4] at hu; cases hu⟩
  ·refine ⟨?_, fun u hu => ?_⟩
   ·by_cases hne : kids = []
    ·exact .inl hne
    ·exact .inr ⟨b, off, ha, hS b (row_blks hne ha)⟩
   ·obtain ⟨j, hj⟩ := List.mem_iff_getElem?.1 hu
    exact ih (hk j u hj).2 fun k hk' => hS k (kid_blks hu hk')
theorem Rows.kept {A B : World} : ∀ {n : Nat} {t : Tm n}, Rows A t → (∀ k ∈ blks t, B.heap[k]? = A.heap[k]?) → Rows B t := by
 intro n
 induction n with
 | zero => intro t; exact Empty.elim t
 | succ n ih =>
  intro t hr hs
  obtain ⟨x, kids⟩ := t
  obtain ⟨r1, r2⟩ := hr
  refine ⟨?_, fun u hu => ih (r2 u hu) fun k hk => hs k (kid_blks hu hk)⟩
  rcases r1 with r1 | ⟨b, arr, ha, hb, hz, hc, hl⟩
  ·exact .inl r1
  ·by_cases hne : kids = []
   ·exact .inl ⟨hne, hc.trans (hl.trans (by rw [show Tm.kids (n := n) ((x, kids) : TV × List (Tm n)) = [] from hne]; rfl))⟩
   ·exact .inr ⟨b, arr, ha, (hs b (row_blks hne ha)).trans hb, hz, hc, hl⟩
theorem IsT.keptL {A B : World} (hsz : A.heap.size ≤ B.heap.size) {n : Nat} {t : Tm n} (ht : IsT A.heap.size A t) (hs : ∀ k ∈ blks t, B.heap[k]? = A.heap[k]?) : IsT B.heap.size B t :=
 (ht.fromS (S := fun k => k ∈ blks t) hs (blk_of ht fun _ h => h)).mono hsz
theorem IsT.blks_lt {n₀ : Nat} {W : World} : ∀ {n : Nat} {t : Tm n}, IsT n₀ W t → ∀ k ∈ blks t, k < n₀ := by
 intro n
 induction n with
 | zero => intro t; exact Empty.elim t
 | succ n ih =>
  intro t ht k hk
  obtain ⟨x, kids⟩ := t
  obtain ⟨_, _, _, h4⟩ := ht
  rw [blks_succ] at hk
  rcases h4 with h4 | ⟨b, off, ha, hb, hkk⟩
  ·rw [show kids = [] from h4] at hk
   simp at hk
  ·rcases List.mem_append.1 hk with h | h
   ·split at h
    ·cases h
    ·rw [show x.a = _ from ha] at h
     simp at h
     omega
   ·obtain ⟨u, hu, hku⟩ := List.mem_flatMap.1 h
    obtain ⟨j, hj⟩ := List.mem_iff_getElem?.1 hu
    exact ih (hkk j u hj).2 k hku
theorem lift_blks : ∀ {n : Nat} (t : Tm n), blks t.lift = blks t := by
 intro n
 induction n with
 | zero => intro t; exact Empty.elim t
 | succ n ih =>
  intro t
  obtain ⟨x, kids⟩ := t
  show blks (n := n + 2) ((x, kids.map Tm.lift) : TV × List (Tm (n + 1))) = _
  rw [blks_succ, blks_succ]
  congr 1
  ·cases kids <;> simp
  ·rw [List.flatMap_map]
   exact flatMap_same kids fun u _ => ih u
theorem lift_rows {W : World} : ∀ {n : Nat} {t : Tm n}, Rows W t → Rows W t.lift := by
 intro n
 induction n with
 | zero => intro t; exact Empty.elim t
 | succ n ih =>
  intro t hr
  obtain ⟨x, kids⟩ := t
  obtain ⟨r1, r2⟩ := hr
  refine ⟨?_, fun u hu => ?_⟩
  ·rcases r1 with r1 | r1
   ·exact .inl ⟨by show kids.map Tm.lift = []; rw [show kids = [] from r1.1]; rfl, r1.2⟩
   ·obtain ⟨b, arr, ha, hb, hz, hc, hl⟩ := r1
    exact .inr ⟨b, arr, ha, hb, hz, hc, hl.trans (List.length_map ..).symm⟩
  ·have hu' : u ∈ kids.map Tm.lift := hu
   obtain ⟨v, hv, rfl⟩ := List.mem_map.1 hu'
   exact ih (r2 v hv)
def Spot (W : World) (b o : Nat) : Prop := ∃ arr T, W.heap[b]? = some (.cells arr T (0, 0)) ∧ o + 4 ≤ arr.size
theorem Spot.lt {W : World} {b o : Nat} (h : Spot W b o) : b < W.heap.size := by obtain ⟨_, _, h, _⟩ := h; exact (Array.getElem?_eq_some_iff.1 h).1
theorem Spot.kept {A B : World} {b o : Nat} (h : Spot A b o) (hb : B.heap[b]? = A.heap[b]?) : Spot B b o := by obtain ⟨arr, T, h, hz⟩ := h; exact ⟨arr, T, hb.trans h, hz⟩
theorem Spot.cell {W : World} {b o : Nat} (h : Spot W b o) {q : Nat} (hq : q < o + 4) : (W.cell? ⟨b, q, none⟩).isSome = true ∧ W.frozen? ⟨b, q, none⟩ = false := by
 obtain ⟨arr, T, h, hz⟩ := h
 refine ⟨?_, ?_⟩
 ·simp [World.cell?, h]; omega
 ·simp [World.frozen?, h]
structure Turned (b o : Nat) (L : List Nat) (W W' : World) : Prop where
 gr : GrB (fun k => k = b ∨ k ∈ L) W.heap.size W W'
 at4 : ∀ arr T, W.heap[b]? = some (.cells arr T (0, 0)) → ∃ arr', W'.heap[b]? = some (.cells arr' T (0, 0)) ∧ arr'.size = arr.size ∧ ∀ q, (q < o ∨ o + 3 < q) → arr'[q]? = arr[q]?
theorem Turned.cell {b o : Nat} {L : List Nat} {W W' : World} (h : Turned b o L W W') {arr : Array Value} {T : TypeId} (hb : W.heap[b]? = some (.cells arr T (0, 0))) {q : Nat} (hq : q < o ∨ o + 3 < q) : W'.cell? ⟨b, q, none⟩ = W.cell? ⟨b, q, none⟩ := by
 obtain ⟨arr', h1, _, h3⟩ := h.at4 arr T hb
 simp only [World.cell?, hb, h1, h3 q hq]
theorem set4_arr {W : World} {b o : Nat} {arr : Array Value} {T : TypeId} (h : W.heap[b]? = some (.cells arr T (0, 0))) (x : TV) : ∃ arr', (set4 W b o x).heap[b]? = some (.cells arr' T (0, 0)) ∧ arr'.size = arr.size ∧ ∀ q, (q < o ∨ o + 3 < q) → arr'[q]? = arr[q]? := by
 have one : ∀ {w : World} {a : Array Value} (p : Nat) (v : Value), w.heap[b]? = some (.cells a T (0, 0)) → (w.setCell ⟨b, p, none⟩ v).heap[b]? = some (.cells (a.setIfInBounds p v) T (0, 0)) := fun {w a} p v h => by
  obtain ⟨hlt, hk⟩ := Array.getElem?_eq_some_iff.1 h
  show (w.heap.modify b _)[b]? = _
  rw [Array.getElem?_eq_getElem (by rw [Array.size_modify]; exact hlt), Array.getElem_modify_self, hk]
  rfl
 refine ⟨_, one (o + 3) _ (one (o + 2) _ (one (o + 1) _ (one o _ h))), by simp, fun q hq => ?_⟩
 rw [Array.getElem?_setIfInBounds_ne (by omega), Array.getElem?_setIfInBounds_ne (by omega), Array.getElem?_setIfInBounds_ne (by omega), Array.getElem?_setIfInBounds_ne (by omega)]
theorem Rows.kind {W : World} : ∀ {n : Nat} {t : Tm n}, Rows W t → ∀ k ∈ blks t, ∃ arr, W.heap[k]? = some (Obj.cells arr 24 (0, 0)) := by
 intro n
 induction n with
 | zero => intro t; exact Empty.elim t
 | succ n ih =>
  intro t hr k hk
  obtain ⟨x, kids⟩ := t
  obtain ⟨r1, r2⟩ := hr
  rw [blks_succ] at hk
  rcases List.mem_append.1 hk with h | h
  ·split at h
   ·cases h
   ·rename_i hne
    rcases r1 with r1 | ⟨b, arr, ha, hb, _⟩
    ·exact (hne r1.1).elim
    ·rw [show x.a = _ from ha] at h
     simp at h
     subst h
     exact ⟨arr, hb⟩
  ·obtain ⟨u, hu, hku⟩ := List.mem_flatMap.1 h
   exact ih (r2 u hu) k hku
structure TurnP (w0 b o : Nat) (L : List Nat) (W W' : World) : Prop where
 os : W'.os = W.os
 tape : W'.tape = W.tape
 output : W'.output = W.output
 size : W.heap.size ≤ W'.heap.size
 block : ∀ k, k < W.heap.size → k ≠ b → k ∉ L → (k < w0 ∨ ∀ ob, W.heap[k]? = some ob → ofK 65 ob = false) → W'.heap[k]? = W.heap[k]?
 at4 : ∀ arr T, W.heap[b]? = some (.cells arr T (0, 0)) → ∃ arr', W'.heap[b]? = some (.cells arr' T (0, 0)) ∧ arr'.size = arr.size ∧ ∀ q, (q < o ∨ o + 3 < q) → arr'[q]? = arr[q]?
theorem TurnP.turned {w0 b o : Nat} {L : List Nat} {W W' : World} (h : TurnP w0 b o L W W') (hw : W.heap.size ≤ w0) : Turned b o L W W' :=
 ⟨⟨h.os, h.tape, h.output, h.size, fun k hk hx => h.block k hk (fun e => hx (.inl e)) (fun e => hx (.inr e)) (.inl (by omega))⟩, h.at4⟩
theorem TurnP.cell {w0 b o : Nat} {L : List Nat} {W W' : World} (h : TurnP w0 b o L W W') {arr : Array Value} {T : TypeId} (hb : W.heap[b]? = some (.cells arr T (0, 0))) {q : Nat} (hq : q < o ∨ o + 3 < q) : W'.cell? ⟨b, q, none⟩ = W.cell? ⟨b, q, none⟩ := by
 obtain ⟨arr', h1, _, h3⟩ := h.at4 arr T hb
 simp only [World.cell?, hb, h1, h3 q hq]
theorem TurnP.of_below {w0 b o : Nat} {L : List Nat} {W W' : World} (h : Below W.heap.size W W') : TurnP w0 b o L W W' :=
 ⟨h.os, h.tape, h.output, h.size, fun k hk _ _ _ => h.block k hk, fun arr _ hb => ⟨arr, (h.block b (Array.getElem?_eq_some_iff.1 hb).1).trans hb, rfl, fun _ _ => rfl⟩⟩
theorem TurnP.of_gr {w0 b o : Nat} {L : List Nat} {W W' : World} {g : Nat} {ob : Obj} (hg : W.grownBy W' (some g)) (hw : w0 ≤ g) (hk : W.heap[g]? = some ob) (hob : ofK 65 ob = true) (hb : b < w0) : TurnP w0 b o L W W' := by
 have hne : b ≠ g := by omega
 refine ⟨hg.os, hg.tape, hg.output, hg.size, fun k hk' _ _ hx => hg.block k hk' (fun e => ?_), fun arr _ hb' => ⟨arr, (hg.block b (Array.getElem?_eq_some_iff.1 hb').1 (by simpa using hne)).trans hb', rfl, fun _ _ => rfl⟩⟩
 have e1 : k = g := by simpa using e
 have e' : g = k := e1.symm
 subst e'
 rcases hx with hx | hx
 ·omega
 ·rw [hx ob hk] at hob
  cases hob
theorem TurnP.trans {w0 b o : Nat} {L : List Nat} {A B C : World} (h : TurnP w0 b o L A B) (k : TurnP w0 b o L B C) : TurnP w0 b o L A C :=
 ⟨k.os.trans h.os, k.tape.trans h.tape, k.output.trans h.output, Nat.le_trans h.size k.size, fun i hi h1 h2 h3 => by
  have e := h.block i hi h1 h2 h3
  exact (k.block i (Nat.lt_of_lt_of_le hi h.size) h1 h2 (h3.imp id fun h4 ob hob => h4 ob (e ▸ hob))).trans e,
 fun arr T hb => by
  obtain ⟨arr', h1, h2, h3⟩ := h.at4 arr T hb
  obtain ⟨arr2, k1, k2, k3⟩ := k.at4 arr' T h1
  exact ⟨arr2, k1, k2.trans h2, fun q hq => (k3 q hq).trans (h3 q hq)⟩⟩
theorem TurnP.outer {w0 b o b' o' : Nat} {L L' : List Nat} {W W' : World} (h : TurnP w0 b' o' L' W W') (hb' : b' ∈ L) (hL : ∀ k ∈ L', k ∈ L) (hne : b ∉ L) (hbw : b < w0) : TurnP w0 b o L W W' :=
 ⟨h.os, h.tape, h.output, h.size, fun k hk _ h2 h3 => h.block k hk (fun e => h2 (e ▸ hb')) (fun e => h2 (hL k e)) h3,
  fun arr _ hb => ⟨arr, (h.block b (Array.getElem?_eq_some_iff.1 hb).1 (fun e => hne (e ▸ hb')) (fun e => hne (hL b e)) (.inl hbw)).trans hb, rfl, fun _ _ => rfl⟩⟩
theorem TurnP.set4 {w0 b o : Nat} {L : List Nat} {W W1 : World} (h : Below W.heap.size W W1) (hb : b < W.heap.size) (x : TV) : TurnP w0 b o L W (Proofs.YtlbobmebbllifaaGreat.set4 W1 b o x) :=
 ⟨h.os, h.tape, h.output, by rw [set4_size]; exact h.size, fun k hk hx _ _ => (set4_other W1 b o x hx).trans (h.block k hk),
  fun arr T hb' => set4_arr ((h.block b hb).trans hb') x⟩
def StandsB (n b o : Nat) (L : List Nat) (sz : Nat) (W' : World) (c : List Nd) : Prop :=
 ∃ t' : Tm (n + 1), cellsAt W' b o t'.tv ∧ IsT W'.heap.size W' t' ∧ Rows W' t' ∧ (blks t').Nodup ∧ code t' = c ∧ ∀ k ∈ blks t', k ∈ L ∨ sz ≤ k
def MbSays (n b o : Nat) (L : List Nat) (W : World) (r : Option (List Nd)) (W' : World) : Prop := Turned b o L W W' ∧ ∀ c, r = some c → StandsB n b o L W.heap.size W' c
structure Pair (W : World) (b o B : Nat) (x : TV) {n : Nat} (u v : Tm n) : Prop where
 xc : cellsAt W b o x
 xa : x.a = some ⟨B, 0, none⟩
 xl : x.len = 2
 xp : x.len ≤ x.cap
 xs : x.s.size ≤ 9223372036854775807
 spot : Spot W b o
 blk : ∃ arr, W.heap[B]? = some (.cells arr 24 (0, 0)) ∧ arr.size = 8
 cu : cellsAt W B 0 u.tv
 cv : cellsAt W B 4 v.tv
 tu : IsT W.heap.size W u
 tv : IsT W.heap.size W v
 ru : Rows W u
 rv : Rows W v
 ap : (B :: (blks u ++ blks v)).Nodup
 nb : b ∉ B :: (blks u ++ blks v)
 xe : x.cap = x.len
theorem Pair.bB {W : World} {b o B : Nat} {x : TV} {n : Nat} {u v : Tm n} (h : Pair W b o B x u v) : B < W.heap.size := by
 obtain ⟨arr, h1, _⟩ := h.blk
 exact (Array.getElem?_eq_some_iff.1 h1).1
theorem pair_of {W : World} {b o : Nat} {n : Nat} {x : TV} {u v : Tm n} (hx : cellsAt W b o x) (hsp : Spot W b o) (hT : IsT W.heap.size W (n := n + 1) ((x, [u, v]) : TV × List (Tm n))) (hr : Rows W (n := n + 1) ((x, [u, v]) : TV × List (Tm n))) (hap : (blks (n := n + 1) ((x, [u, v]) : TV × List (Tm n))).Nodup) (hnb : b ∉ blks (n := n + 1) ((x, [u, v]) : TV × List (Tm n))) :
  ∃ B, Pair W b o B x u v ∧ blks (n := n + 1) ((x, [u, v]) : TV × List (Tm n)) = B :: (blks u ++ blks v) := by
 obtain ⟨h1, h2, h3, h4⟩ := hT
 obtain ⟨r1, r2⟩ := hr
 simp only [Tm.tv, Tm.kids] at h1 h2 h3 h4 r1 r2
 rcases r1 with r1 | ⟨B, arr, ha, hB, hz, hce, _⟩
 ·cases r1.1
 ·rcases h4 with h4 | ⟨b', off, ha', _, hk⟩
  ·cases h4
  ·rw [ha] at ha'
   simp at ha'
   obtain ⟨rfl, rfl⟩ := ha'
   have hl : x.len = 2 := by simpa using h1
   obtain ⟨cu, tu⟩ := hk 0 u rfl
   obtain ⟨cv, tv⟩ := hk 1 v rfl
   have cu' : cellsAt W B (0 + 0 * 4) u.tv := cu
   have cv' : cellsAt W B (0 + 1 * 4) v.tv := cv
   have e : blks (n := n + 1) ((x, [u, v]) : TV × List (Tm n)) = B :: (blks u ++ blks v) := by
    rw [blks_succ, if_neg (by simp), ha]
    simp
   refine ⟨B, ⟨hx, ha, hl, h2.2.1, h3, hsp, ⟨arr, hB, by omega⟩, by simpa using cu', by simpa using cv', tu, tv, r2 u (by simp), r2 v (by simp), e ▸ hap, e ▸ hnb, hce⟩, e⟩
theorem Pair.parts {W : World} {b o B : Nat} {x : TV} {n : Nat} {u v : Tm n} (h : Pair W b o B x u v) : (blks u).Nodup ∧ (blks v).Nodup ∧ B ∉ blks u ∧ B ∉ blks v ∧ (∀ k ∈ blks u, k ∉ blks v) ∧ b ≠ B ∧ b ∉ blks u ∧ b ∉ blks v := by
 have h1 := h.ap
 have h2 := h.nb
 rw [List.nodup_cons, List.nodup_append] at h1
 simp only [List.mem_append, not_or] at h1
 simp only [List.mem_cons, List.mem_append, not_or] at h2
 exact ⟨h1.2.1, h1.2.2.1, h1.1.1, h1.1.2, fun k hk hk' => h1.2.2.2 k hk k hk' rfl, h2.1, h2.2.1, h2.2.2⟩
theorem Pair.spots {W : World} {b o B : Nat} {x : TV} {n : Nat} {u v : Tm n} (h : Pair W b o B x u v) : Spot W B 0 ∧ Spot W B 4 := by
 obtain ⟨arr, h1, h2⟩ := h.blk
 exact ⟨⟨arr, _, h1, by omega⟩, ⟨arr, _, h1, by omega⟩⟩
theorem Pair.first {w0 : Nat} {A W : World} {b o B : Nat} {x : TV} {n : Nat} {u v : Tm n} (h : Pair A b o B x u v) (ht : TurnP w0 B 4 (blks v) A W) (hw : ∀ k ∈ b :: B :: (blks u ++ blks v), k < w0) :
  cellsAt W b o x ∧ Spot W B 0 ∧ cellsAt W B 0 u.tv ∧ IsT W.heap.size W u ∧ Rows W u := by
 obtain ⟨_, _, p3, p4, p5, p6, _, p8⟩ := h.parts
 obtain ⟨arr, h1, h2⟩ := h.blk
 have hb : W.heap[b]? = A.heap[b]? := ht.block b h.spot.lt p6 p8 (.inl (hw b (by simp)))
 have hu : ∀ k ∈ blks u, W.heap[k]? = A.heap[k]? := fun k hk => ht.block k (h.tu.blks_lt k hk) (fun e => p3 (e ▸ hk)) (p5 k hk) (.inl (hw k (by simp [hk])))
 obtain ⟨arr', k1, k2, k3⟩ := ht.at4 arr _ h1
 have hc : ∀ q, q < 4 → W.cell? ⟨B, q, none⟩ = A.cell? ⟨B, q, none⟩ := fun q hq => ht.cell h1 (.inl hq)
 obtain ⟨c0, c1, c2, c3⟩ := h.cu
 exact ⟨h.xc.kept hb, ⟨arr', _, k1, by omega⟩, ⟨(hc _ (by omega)).trans c0, (hc _ (by omega)).trans c1, (hc _ (by omega)).trans c2, (hc _ (by omega)).trans c3⟩, h.tu.keptL ht.size hu, h.ru.kept hu⟩
theorem Pair.half {w0 : Nat} {A W W' : World} {b o B : Nat} {x : TV} {n : Nat} {u v : Tm n} (h : Pair A b o B x u v) (hb : TurnP w0 b o (B :: (blks u ++ blks v)) W A) (ht : TurnP w0 B 4 (blks v) A W') (hbw : b < w0) : TurnP w0 b o (B :: (blks u ++ blks v)) W W' :=
 hb.trans (ht.outer (by simp) (fun k hk => by simp [hk]) h.nb hbw)
theorem Pair.both {w0 : Nat} {A W W2 W3 : World} {b o B : Nat} {x : TV} {n : Nat} {u v : Tm n} (h : Pair A b o B x u v) (hb : TurnP w0 b o (B :: (blks u ++ blks v)) W A) {cu cv : List Nd} (ht : TurnP w0 B 4 (blks v) A W2) (sv : StandsB n B 4 (blks v) A.heap.size W2 cv) (ht2 : TurnP w0 B 0 (blks u) W2 W3) (su : StandsB n B 0 (blks u) W2.heap.size W3 cu) (hk4 : x.k = 4) (hN0 : x.N = 0) (hw : ∀ k ∈ b :: B :: (blks u ++ blks v), k < w0) (hlim : n + 2 ≤ 2199023255552) :
  TurnP w0 b o (B :: (blks u ++ blks v)) W W3 ∧ StandsB (n + 1) b o (B :: (blks u ++ blks v)) W.heap.size W3 ((4, 0, x.s.toList, 2) :: (cu ++ cv)) := by
 obtain ⟨p1, p2, p3, p4, p5, p6, p7, p8⟩ := h.parts
 have T1 : TurnP w0 b o (B :: (blks u ++ blks v)) W W3 := (h.half hb ht (hw b (by simp))).trans (ht2.outer (by simp) (fun k hk => by simp [hk]) h.nb (hw b (by simp)))
 refine ⟨T1, ?_⟩
 obtain ⟨u', u1, u2, u3, u4, u5, u6⟩ := su
 obtain ⟨v', v1, v2, v3, v4, v5, v6⟩ := sv
 have hs0 := hb.size
 have hs1 := ht.size
 have hs2 := ht2.size
 have hBA := h.bB
 have hvlt := h.tv.blks_lt
 have hult := h.tu.blks_lt
 have hv' : ∀ k ∈ blks v', k < W2.heap.size := v2.blks_lt
 have hvk : ∀ k ∈ blks v', W3.heap[k]? = W2.heap[k]? := fun k hk => ht2.block k (hv' k hk) (by
  rintro rfl
  rcases v6 _ hk with h | h
  ·exact p4 h
  ·omega) (by
  intro hx
  rcases v6 _ hk with h | h
  ·exact p5 k hx h
  ·have := hult k hx; omega) (.inr fun ob hob => by
   obtain ⟨arr, ha⟩ := v3.kind k hk
   rw [ha] at hob
   cases hob
   rfl)
 obtain ⟨arr, h1, h2⟩ := h.blk
 obtain ⟨arr2, k1, k2, k3⟩ := ht.at4 arr _ h1
 obtain ⟨arr3, l1, l2, l3⟩ := ht2.at4 arr2 _ k1
 have hc : ∀ q, 3 < q → W3.cell? ⟨B, q, none⟩ = W2.cell? ⟨B, q, none⟩ := fun q hq => ht2.cell k1 (.inr (by omega))
 obtain ⟨c0, c1, c2, c3⟩ := v1
 have v1' : cellsAt W3 B 4 v'.tv := ⟨(hc _ (by omega)).trans c0, (hc _ (by omega)).trans c1, (hc _ (by omega)).trans c2, (hc _ (by omega)).trans c3⟩
 have hxb : W3.heap[b]? = A.heap[b]? := by
  have hb1 : W2.heap[b]? = A.heap[b]? := ht.block b h.spot.lt p6 p8 (.inl (hw b (by simp)))
  rw [ht2.block b (by have := h.spot.lt; omega) p6 p7 (.inl (hw b (by simp))), hb1]
 have e : blks (n := n + 2) ((x, [u', v']) : TV × List (Tm (n + 1))) = B :: (blks u' ++ blks v') := by
  rw [blks_succ, if_neg (by simp), h.xa]
  simp
 have hB3 : B < W3.heap.size := by omega
 have hxp := h.xp
 have hxl := h.xl
 refine ⟨((x, [u', v']) : TV × List (Tm (n + 1))), h.xc.kept hxb, ⟨by show x.len = _; rw [h.xl]; rfl, ⟨by show x.len ≤ _; omega, by show x.len ≤ x.cap; omega, hlim⟩, h.xs, .inr ⟨B, 0, h.xa, hB3, fun j z hz => ?_⟩⟩, ⟨.inr ⟨B, arr3, h.xa, l1, by show _ = x.len * 4; rw [h.xl]; omega, h.xe, h.xl⟩, fun z hz => ?_⟩, ?_, ?_, ?_⟩
 ·have hj : (j = 0 ∧ z = u') ∨ (j = 1 ∧ z = v') := by
   match j, hz with
   | 0, hz => exact .inl ⟨rfl, by simpa [Tm.kids] using hz.symm⟩
   | 1, hz => exact .inr ⟨rfl, by simpa [Tm.kids] using hz.symm⟩
   | k + 2, hz => simp [Tm.kids] at hz
  rcases hj with ⟨rfl, rfl⟩ | ⟨rfl, rfl⟩
  ·exact ⟨by simpa using u1, u2⟩
  ·exact ⟨by simpa using v1', v2.keptL hs2 hvk⟩
 ·have : z = u' ∨ z = v' := by simpa [Tm.kids] using hz
  rcases this with rfl | rfl
  ·exact u3
  ·exact v3.kept hvk
 ·rw [e, List.nodup_cons, List.nodup_append]
  refine ⟨fun hm => ?_, u4, v4, fun k hk k' hk' ee => ?_⟩
  ·rcases List.mem_append.1 hm with hm | hm
   ·rcases u6 _ hm with h | h
    ·exact p3 h
    ·omega
   ·rcases v6 _ hm with h | h
    ·exact p4 h
    ·omega
  ·subst ee
   have hlt := hv' k hk'
   rcases u6 _ hk with h | h
   ·rcases v6 _ hk' with h' | h'
    ·exact p5 k h h'
    ·have := hult k h; omega
   ·omega
 ·rw [code_succ]
  simp [u5, v5, TV.nd, hk4, hN0, h.xl]
 ·intro k hk
  rw [e] at hk
  rcases List.mem_cons.1 hk with rfl | hk
  ·exact .inl (by simp)
  ·rcases List.mem_append.1 hk with hk | hk
   ·rcases u6 _ hk with h | h
    ·exact .inl (by simp [h])
    ·exact .inr (by omega)
   ·rcases v6 _ hk with h | h
    ·exact .inl (by simp [h])
    ·exact .inr (by omega)
/- A term in memory whose rows are whole blocks with no room behind them. -/
def HoldsL (D : Nat) (S : Nat → Prop) (W : World) (v : Value) (c : List Nd) : Prop :=
 ∀ m, D ≤ m → m ≤ 2199023255552 → ∃ t : Tm m, v = t.tv.val ∧ IsT W.heap.size W t ∧ (BlkT S t ∧ Rows W t) ∧ code t = c
theorem HoldsL.s {D : Nat} {S : Nat → Prop} {W : World} {v : Value} {c : List Nd} (h : HoldsL D S W v c) : HoldsS D S W v c := fun m hm hl => by
 obtain ⟨t, h1, h2, h3, h4⟩ := h m hm hl
 exact ⟨t, h1, h2, h3.1, h4⟩
theorem holdsL_of {n : Nat} {t : Tm n} {S : Nat → Prop} {W : World} (hT : IsT W.heap.size W t) (hS : BlkT S t) (hR : Rows W t) : HoldsL n S W t.tv.val (code t) := fun m hm hl => by
 obtain ⟨k, rfl⟩ : ∃ k, m = n + k := ⟨m - n, by omega⟩
 clear hm
 induction k with
 | zero => exact ⟨t, rfl, hT, ⟨hS, hR⟩, rfl⟩
 | succ k ih =>
  obtain ⟨t', h1, h2, h3, h4⟩ := ih (by omega)
  exact ⟨t'.lift, by rw [lift_tv]; exact h1, lift_isT h2 hl, ⟨lift_blk h3.1, lift_rows h3.2⟩, by rw [lift_code]; exact h4⟩
theorem Rows.moveB {S : Nat → Prop} {A B : World} (hs : ∀ k, S k → B.heap[k]? = A.heap[k]?) : ∀ {n : Nat} {t : Tm n}, Rows A t → BlkT S t → Rows B t := by
 intro n
 induction n with
 | zero => intro t; exact Empty.elim t
 | succ n ih =>
  intro t hr hb
  obtain ⟨x, kids⟩ := t
  obtain ⟨r1, r2⟩ := hr
  obtain ⟨b1, b2⟩ := hb
  refine ⟨?_, fun u hu => ih (r2 u hu) (b2 u hu)⟩
  rcases r1 with r1 | ⟨b, arr, ha, hB, hz, hc, hl⟩
  ·exact .inl r1
  ·rcases b1 with b1 | ⟨b', off, ha', hs'⟩
   ·exact .inl ⟨b1, hc.trans (hl.trans (by rw [b1]; rfl))⟩
   ·rw [ha] at ha'
    simp at ha'
    exact .inr ⟨b, arr, ha, (hs b (ha'.1 ▸ hs')).trans hB, hz, hc, hl⟩
theorem HoldsT.holdsL {D lo : Nat} {W : World} {v : Value} {c : List Nd} (h : HoldsT D lo W v c) : HoldsL D (lo ≤ ·) W v c := fun m hm hl => by
 obtain ⟨t, h1, h2, h3, h4⟩ := h m hm
 exact ⟨t, h1, h2 hl, ⟨h3.new.blk, h3.wh.rows (h2 hl).wl⟩, h4⟩
theorem HoldsL.mono {D D' : Nat} {S S' : Nat → Prop} {W : World} {v : Value} {c : List Nd} (h : HoldsL D S W v c) (hD : D ≤ D') (hS : ∀ b, S b → S' b) : HoldsL D' S' W v c := fun m hm hl => by
 obtain ⟨t, h1, h2, h3, h4⟩ := h m (by omega) hl
 exact ⟨t, h1, h2, ⟨h3.1.mono hS, h3.2⟩, h4⟩
theorem HoldsL.fromS {D : Nat} {S : Nat → Prop} {A B : World} {v : Value} {c : List Nd} (h : HoldsL D S A v c) (hs : ∀ b, S b → b < A.heap.size → B.heap[b]? = A.heap[b]?) (hsz : A.heap.size ≤ B.heap.size) : HoldsL D S B v c := fun m hm hl => by
 obtain ⟨t, h1, h2, h3, h4⟩ := h m hm hl
 have hb := h3.1.and h2.blk
 have hk : ∀ b, S b ∧ b < A.heap.size → B.heap[b]? = A.heap[b]? := fun b hb => hs b hb.1 hb.2
 exact ⟨t, h1, (h2.fromS hk hb).mono hsz, ⟨h3.1, h3.2.moveB hk hb⟩, h4⟩
theorem HoldsL.below {D : Nat} {S : Nat → Prop} {A B : World} {v : Value} {c : List Nd} (h : HoldsL D S A v c) (hb : Below A.heap.size A B) : HoldsL D S B v c := h.fromS (fun b _ hl => hb.block b hl) hb.size
theorem holdsL_set4 {D lo : Nat} {W : World} {v : Value} {c : List Nd} (h : HoldsL D (lo ≤ ·) W v c) {b : Nat} (hb : b < lo) (o : Nat) (x : TV) : HoldsL D (lo ≤ ·) (set4 W b o x) v c :=
 h.fromS (fun k hk _ => set4_other W b o x (by have : lo ≤ k := hk; omega)) (by rw [set4_size]; exact Nat.le_refl _)
theorem holdsL_two {D : Nat} {S : Nat → Prop} {W : World} {x y : TV} {cx cy : List Nd} (hx : HoldsL D S W x.val cx) (hy : HoldsL D S W y.val cy) {b : Nat} (hS : S b)
  (hb : W.heap[b]? = some (.cells #[.int .i64 x.k, .int .i64 x.N, .string x.s, .slice x.a x.len x.cap, .int .i64 y.k, .int .i64 y.N, .string y.s, .slice y.a y.len y.cap] 24 (0, 0))) (s : ByteArray) (hs : s.size ≤ 9223372036854775807) :
  HoldsL (D + 1) S W (compV s (some ⟨b, 0, none⟩) 2 2).val ((4, 0, s.toList, 2) :: (cx ++ cy)) := fun m hm hlm => by
 obtain ⟨M, rfl⟩ : ∃ M, m = M + 1 := ⟨m - 1, by omega⟩
 obtain ⟨t, h1, h2, ⟨h3, h3'⟩, h4⟩ := hx M (by omega) (by omega)
 obtain ⟨u, k1, k2, ⟨k3, k3'⟩, k4⟩ := hy M (by omega) (by omega)
 have hxt := tv_inj h1
 have hyt := tv_inj k1
 have hlt := (Array.getElem?_eq_some_iff.1 hb).1
 have hin : ∀ v, v ∈ [t, u] → v = t ∨ v = u := fun v hv => by simpa using hv
 refine ⟨((compV s (some ⟨b, 0, none⟩) 2 2, [t, u]) : TV × List (Tm M)), rfl, ⟨rfl, ⟨by simp [Tm.tv, compV], by simp [Tm.tv, compV], hlm⟩, hs, .inr ⟨b, 0, rfl, hlt, fun j v hv => ?_⟩⟩, ⟨⟨.inr ⟨b, 0, rfl, hS⟩, fun v hv => ?_⟩, ⟨.inr ⟨b, _, rfl, hb, rfl, rfl, rfl⟩, fun v hv => ?_⟩⟩, ?_⟩
 ·have hj : (j = 0 ∧ v = t) ∨ (j = 1 ∧ v = u) := by
   match j, hv with
   | 0, hv => exact .inl ⟨rfl, by simpa [Tm.kids] using hv.symm⟩
   | 1, hv => exact .inr ⟨rfl, by simpa [Tm.kids] using hv.symm⟩
   | k + 2, hv => simp [Tm.kids] at hv
  rcases hj with ⟨rfl, rfl⟩ | ⟨rfl, rfl⟩
  ·refine ⟨?_, h2⟩
   rw [← hxt]
   refine ⟨?_, ?_, ?_, ?_⟩ <;> simp [World.cell?, hb]
  ·refine ⟨?_, k2⟩
   rw [← hyt]
   refine ⟨?_, ?_, ?_, ?_⟩ <;> simp [World.cell?, hb]
 ·rcases hin v hv with rfl | rfl
  ·exact h3
  ·exact k3
 ·rcases hin v hv with rfl | rfl
  ·exact h3'
  ·exact k3'
 ·rw [code_succ]
  simp [h4, k4, TV.nd, compV]
end Go.Proofs.YtlbobmebbllifaaGreat
