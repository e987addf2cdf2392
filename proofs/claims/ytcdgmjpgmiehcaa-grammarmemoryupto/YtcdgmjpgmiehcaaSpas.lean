import Derived.Test.YtcdgmjpgmiehcaaTs
import Derived.Laws.AppendOwn
import Derived.OwnWalk
import Derived.Deep.DeepMust
import Derived.Test.YtcdgmjpgmiehcaaGqZs
/- What is written over: the contracts of hornkeep.markTerm and of hornkeep.spoilt at terms. -/
namespace Go.Proofs.Ytcdgmjpgmiehcaa
open Go.RowKit Go.Shelf

/-- What is written over a term. -/
def markV : TV := ⟨9, -77, ⟨#[115, 112, 111, 105, 108, 116]⟩, none, 0, 0⟩
def mk4 : Nat → Value
  | 0 => .int .i64 9
  | 1 => .int .i64 (-77)
  | 2 => .string ⟨#[115, 112, 111, 105, 108, 116]⟩
  | _ => .slice none 0 0
/-- A block of room for cap terms, of which those up to j are marks, and those from k on. -/
structure MkT (W : World) (b cap j : Nat) : Prop where
  row : Row4 W b cap
  at4 : ∀ i, i < j → cellsAt W b (i * 4) markV
set_option maxHeartbeats 400000 in
theorem markTerm_any (w : World) : Calls Try.prog 16 #[] w fun e w' => e = .returned markV.val ∧ w' = w.alloc (.cells #[.int .i64 9, .int .i64 (-77), .string ⟨#[115, 112, 111, 105, 108, 116]⟩, .slice none 0 0] 24) := by
  go_enter Try.func16, Try.ntmps16
  go_wp2
  exact bodyPost_ret (v := markV.val) (by simp [results, Try.results16, go_sem, markV, TV.val]) rfl ⟨rfl, rfl⟩

theorem set4_at {W : World} {B len o : Nat} (h : Row4 W B len) (ho : o + 3 < len * 4) (x : TV) : cellsAt (set4 W B o x) B o x := by
  obtain ⟨⟨v0, h0⟩, _⟩ := h.cell (o := o) (by omega)
  obtain ⟨⟨v1, h1⟩, _⟩ := h.cell (o := o + 1) (by omega)
  obtain ⟨⟨v2, h2⟩, _⟩ := h.cell (o := o + 2) (by omega)
  obtain ⟨⟨v3, h3⟩, _⟩ := h.cell (o := o + 3) (by omega)
  exact set4_cells W B o x (by rw [h0]; rfl) (by rw [h1]; rfl) (by rw [h2]; rfl) (by rw [h3]; rfl)
theorem set4_off {W : World} {B o q : Nat} (x y : TV) (h : cellsAt W B q y) (hq : q + 3 < o) : cellsAt (set4 W B o x) B q y := by
  obtain ⟨h0, h1, h2, h3⟩ := h
  unfold set4
  refine ⟨?_, ?_, ?_, ?_⟩
  all_goals rw [World.cell?_setCell_other _ _ _ _ (by simp <;> omega), World.cell?_setCell_other _ _ _ _ (by simp <;> omega), World.cell?_setCell_other _ _ _ _ (by simp <;> omega), World.cell?_setCell_other _ _ _ _ (by simp <;> omega)]
  · exact h0
  · exact h1
  · exact h2
  · exact h3
theorem MkT.next {W : World} {b cap j : Nat} (h : MkT W b cap j) (hj : j < cap) : MkT (set4 W b (j * 4) markV) b cap (j + 1) := by
  refine ⟨h.row.set4 _ _, fun i hi => ?_⟩
  by_cases e : i < j
  · exact set4_off _ _ (h.at4 i e) (by omega)
  · have : i = j := by omega
    subst this
    exact set4_at h.row (by omega) markV
end Go.Proofs.Ytcdgmjpgmiehcaa

/- The contract of hornkeep.spoilt at terms: a whole block is written over. -/
namespace Go.Proofs.Ytcdgmjpgmiehcaa
open Go.RowKit Go.Shelf

/-- What spoiling may do: blocks of S are left, or written over with marks; no other block that was there is turned. -/
structure Spoils (S : Nat → Prop) (A B : World) : Prop where
  os : B.os = A.os
  tape : B.tape = A.tape
  output : B.output = A.output
  size : A.heap.size ≤ B.heap.size
  other : ∀ k, k < A.heap.size → ¬ S k → B.heap[k]? = A.heap[k]?
  mark : ∀ k cap, S k → Row4 A k cap → B.heap[k]? = A.heap[k]? ∨ MkT B k cap cap
  kind : ∀ k, k < A.heap.size → (∀ cap, ¬ Row4 A k cap) → B.heap[k]? = A.heap[k]?
theorem MkT.keep {A B : World} {k cap j : Nat} (h : MkT A k cap j) (hb : B.heap[k]? = A.heap[k]?) : MkT B k cap j := ⟨h.row.kept hb, fun i hi => (h.at4 i hi).kept hb⟩
theorem Spoils.refl (S : Nat → Prop) (A : World) : Spoils S A A := ⟨rfl, rfl, rfl, Nat.le_refl _, fun _ _ _ => rfl, fun _ _ _ _ => .inl rfl, fun _ _ _ => rfl⟩
theorem Row4.cap {W : World} {b c d : Nat} (h : Row4 W b c) (k : Row4 W b d) : c = d := by
  obtain ⟨a1, h1, h2⟩ := h
  obtain ⟨a2, k1, k2⟩ := k
  rw [h1] at k1
  simp at k1
  subst k1
  omega
theorem Spoils.trans {S : Nat → Prop} {A B C : World} (h : Spoils S A B) (k : Spoils S B C) : Spoils S A C := by
  refine ⟨k.os.trans h.os, k.tape.trans h.tape, k.output.trans h.output, Nat.le_trans h.size k.size, fun i hi hn => (k.other i (Nat.lt_of_lt_of_le hi h.size) hn).trans (h.other i hi hn), fun i cap hs hr => ?_, fun i hi hn => (k.kind i (Nat.lt_of_lt_of_le hi h.size) (fun cap hr => hn cap (hr.kept (h.kind i hi hn).symm))).trans (h.kind i hi hn)⟩
  rcases h.mark i cap hs hr with h1 | h1
  · rcases k.mark i cap hs (hr.kept h1) with k1 | k1
    · exact .inl (k1.trans h1)
    · exact .inr k1
  · rcases k.mark i cap hs h1.row with k1 | k1
    · exact .inr (h1.keep k1)
    · exact .inr k1
theorem Spoils.of_below {S : Nat → Prop} {A B : World} (h : Below A.heap.size A B) : Spoils S A B :=
  ⟨h.os, h.tape, h.output, h.size, fun k hk _ => h.block k hk, fun k _ _ hr => .inl (h.block k hr.lt), fun k hk _ => h.block k hk⟩

/-- The term of a mark. -/
def markT (n : Nat) : Tm (n + 1) := (markV, [])
/-- No row is longer than fifty, and each lies below hi. -/
def Tidy (hi : Nat) : {n : Nat} → Tm n → Prop
  | 0, _ => True
  | _ + 1, t => (t.tv.len ≤ 50 ∧ ∀ b o, t.tv.a = some ⟨b, o, none⟩ → b < hi) ∧ ∀ u ∈ t.kids, Tidy hi u
/-- What is spoilt stays a thing that can be spoilt: rows that are whole blocks. -/
theorem WhT.spoilt {lo hi : Nat} {A B : World} (h : Spoils (fun b => lo ≤ b ∧ b < hi) A B) : ∀ {n : Nat} {t : Tm n}, WhT lo A t → IsT A.heap.size A t → Tidy hi t → ∃ t' : Tm n, t'.tv = t.tv ∧ WhT lo B t' ∧ IsT B.heap.size B t' ∧ Tidy hi t' := by
  intro n
  induction n with
  | zero => intro t; exact Empty.elim t
  | succ n ih =>
    intro t hw hT hd
    obtain ⟨w1, w2⟩ := hw
    obtain ⟨d1, d2⟩ := hd
    obtain ⟨h1, h2, h3, h4⟩ := hT
    rcases w1 with ⟨e1, e2, e3, e4⟩ | ⟨b, arr, hlo, ha, hc, hb, hz⟩
    · exact ⟨((t.tv, []) : TV × List (Tm n)), rfl, ⟨.inl ⟨rfl, e2, e3, e4⟩, fun u hu => by cases hu⟩, ⟨e3, h2, h3, .inl rfl⟩, ⟨d1, fun u hu => by cases hu⟩⟩
    · have hrow : Row4 A b t.tv.len := ⟨arr, hb, hz⟩
      have hkids : t.kids = [] ∨ ∀ j u, t.kids[j]? = some u → cellsAt A b (j * 4) u.tv ∧ IsT A.heap.size A u := by
        rcases h4 with h4 | ⟨b', off', ha', _, hk⟩
        · exact .inl h4
        · rw [ha] at ha'
          simp at ha'
          obtain ⟨rfl, rfl⟩ := ha'
          exact .inr fun j u hu => by have := hk j u hu; rw [Nat.zero_add] at this; exact this
      have hlt := Nat.lt_of_lt_of_le hrow.lt h.size
      rcases h.mark b t.tv.len ⟨hlo, d1.2 b 0 ha⟩ hrow with hm | hm
      · -- the row is as it was: each part by itself
        have hq : ∀ i, i < t.kids.length → ∃ u' : Tm n, (∀ u, t.kids[i]? = some u → u'.tv = u.tv) ∧ WhT lo B u' ∧ IsT B.heap.size B u' ∧ Tidy hi u' := fun i hi => by
          obtain ⟨u, hu⟩ : ∃ u, t.kids[i]? = some u := ⟨t.kids[i], List.getElem?_eq_getElem hi⟩
          rcases hkids with hk | hk
          · rw [hk] at hi; simp at hi
          · obtain ⟨u', k1, k2, k3, k4⟩ := ih (w2 u (List.mem_of_getElem? hu)) (hk i u hu).2 (d2 u (List.mem_of_getElem? hu))
            exact ⟨u', fun v hv => by rw [hu] at hv; cases hv; exact k1, k2, k3, k4⟩
        obtain ⟨ks, hkl, hks⟩ := list_of hq
        refine ⟨((t.tv, ks) : TV × List (Tm n)), rfl, ⟨.inr ⟨b, arr, hlo, ha, hc, hm.trans hb, hz⟩, fun u hu => ?_⟩, ⟨h1.trans hkl.symm, h2, h3, .inr ⟨b, 0, ha, hlt, fun j u hu => ?_⟩⟩, ⟨d1, fun u hu => ?_⟩⟩
        · obtain ⟨j, hj⟩ := List.mem_iff_getElem?.1 hu
          exact (hks j u hj).2.1
        · have hu0 : ks[j]? = some u := hu
          have hj : j < t.kids.length := by have := (List.getElem?_eq_some_iff.1 hu0).1; omega
          obtain ⟨v, hv⟩ : ∃ v, t.kids[j]? = some v := ⟨t.kids[j], List.getElem?_eq_getElem hj⟩
          obtain ⟨k1, k2, k3, k4⟩ := hks j u hu
          rcases hkids with hk | hk
          · rw [hk] at hj; simp at hj
          · rw [Nat.zero_add, k1 v hv]
            exact ⟨((hk j v hv).1).kept hm, k3⟩
        · obtain ⟨j, hj⟩ := List.mem_iff_getElem?.1 hu
          exact (hks j u hj).2.2.2
      · -- the row is marks
        cases n with
        | zero =>
          have he : t.kids = [] := by
            cases hk : t.kids with
            | nil => rfl
            | cons u r => exact Empty.elim u
          have hl0 : t.tv.len = 0 := by rw [h1, he]; rfl
          obtain ⟨arr', r1, r2⟩ := hm.row
          exact ⟨((t.tv, []) : TV × List (Tm 0)), rfl, ⟨.inr ⟨b, arr', hlo, ha, hc, r1, r2⟩, fun u hu => by cases hu⟩, ⟨hl0, h2, h3, .inl rfl⟩, ⟨d1, fun u hu => by cases hu⟩⟩
        | succ n =>
          obtain ⟨arr', r1, r2⟩ := hm.row
          refine ⟨((t.tv, List.replicate t.tv.len (markT n)) : TV × List (Tm (n + 1))), rfl, ⟨.inr ⟨b, arr', hlo, ha, hc, r1, r2⟩, fun u hu => ?_⟩, ⟨by simp [Tm.kids, Tm.tv], h2, h3, .inr ⟨b, 0, ha, hlt, fun j u hu => ?_⟩⟩, ⟨d1, fun u hu => ?_⟩⟩
          · have := List.eq_of_mem_replicate hu
            subst this
            exact ⟨.inl ⟨rfl, rfl, rfl, rfl⟩, fun u hu => by cases hu⟩
          · have hu' : (List.replicate t.tv.len (markT n))[j]? = some u := hu
            rw [List.getElem?_replicate] at hu'
            split at hu'
            · rename_i hj
              cases hu'
              rw [Nat.zero_add]
              exact ⟨hm.at4 j hj, rfl, ⟨by simp [markT, Tm.tv, markV], by simp [markT, Tm.tv, markV], by have := h2.2.2; omega⟩, (by show (markV).s.size ≤ _; decide), .inl rfl⟩
            · cases hu'
          · have := List.eq_of_mem_replicate hu
            subst this
            exact ⟨⟨by simp [markT, Tm.tv, markV], fun b o e => by simp [markT, Tm.tv, markV] at e⟩, fun u hu => by cases hu⟩
end Go.Proofs.Ytcdgmjpgmiehcaa

/- The contract of hornkeep.spoilt at terms. -/
namespace Go.Proofs.Ytcdgmjpgmiehcaa
open Go.RowKit Go.Shelf

def m4 : List Value := [.int .i64 9, .int .i64 (-77), .string ⟨#[115, 112, 111, 105, 108, 116]⟩, .slice none 0 0]
def m12 : List Value := m4 ++ m4 ++ m4
theorem m12_at (q r : Nat) (hq : q < 3) (hr : r < 4) : m12[q * 4 + r]? = m4[r]? := by
  have h1 : q = 0 ∨ q = 1 ∨ q = 2 := by omega
  have h2 : r = 0 ∨ r = 1 ∨ r = 2 ∨ r = 3 := by omega
  rcases h1 with rfl | rfl | rfl <;> rcases h2 with rfl | rfl | rfl | rfl <;> rfl
theorem over_at {cur : List Value} {len : Nat} (o : Nat) (h : len * 4 + 12 ≤ cur.length) (ho : o < len * 4 ∨ len * 4 + 12 ≤ o) : (cur.take (len * 4) ++ m12 ++ cur.drop (len * 4 + m12.length))[o]? = cur[o]? := by
  have hm : m12.length = 12 := rfl
  have ht : (cur.take (len * 4)).length = len * 4 := by simp; omega
  rcases ho with ho | ho
  · rw [List.append_assoc, List.getElem?_append_left (by omega), List.getElem?_take, if_pos ho]
  · rw [List.getElem?_append_right (by rw [List.length_append, ht, hm]; omega), List.length_append, ht, hm, List.getElem?_drop]
    congr 1
    omega
theorem over_in {cur : List Value} {len : Nat} (q r : Nat) (h : len * 4 + 12 ≤ cur.length) (hq : q < 3) (hr : r < 4) : (cur.take (len * 4) ++ m12 ++ cur.drop (len * 4 + m12.length))[(len + q) * 4 + r]? = m4[r]? := by
  have hm : m12.length = 12 := rfl
  have ht : (cur.take (len * 4)).length = len * 4 := by simp; omega
  rw [List.append_assoc, List.getElem?_append_right (by omega), ht, List.getElem?_append_left (by omega), show (len + q) * 4 + r - len * 4 = q * 4 + r by omega]
  exact m12_at q r hq hr
/-- Three marks more among marks. -/
theorem MkT.over {w : World} {b cap len : Nat} {cur : Array Value} (h : MkT w b cap cap) (hg : w.heap[b]? = some (Obj.cells cur 24 (0, 0))) (hz : cur.size = cap * 4) (hl : len + 3 ≤ cap) :
    MkT (w.setRow b (cur.toList.take (len * 4) ++ m12 ++ cur.toList.drop (len * 4 + m12.length)).toArray) b cap cap := by
  have hlen : cur.toList.length = cap * 4 := by simpa using hz
  have hm : m12.length = 12 := rfl
  refine ⟨⟨_, setRow_heap w b cur _ _ _ hg, by simp [hm]; omega⟩, fun i hi => ?_⟩
  have hc : ∀ o, w.cell? ⟨b, o, none⟩ = cur.toList[o]? := fun o => by simp [World.cell?, hg]
  have key : ∀ r v, r < 4 → w.cell? ⟨b, i * 4 + r, none⟩ = some v → m4[r]? = some v → (w.setRow b (cur.toList.take (len * 4) ++ m12 ++ cur.toList.drop (len * 4 + m12.length)).toArray).cell? ⟨b, i * 4 + r, none⟩ = some v := fun r v hr hv hm4 => by
    rw [cell_setRow_same w b _ cur _ _ _ hg, List.getElem?_toArray]
    by_cases h1 : i < len
    · rw [over_at _ (by omega) (by omega), ← hc]; exact hv
    · by_cases h2 : len + 3 ≤ i
      · rw [over_at _ (by omega) (by omega), ← hc]; exact hv
      · obtain ⟨q, rfl⟩ : ∃ q, i = len + q := ⟨i - len, by omega⟩
        rw [over_in q r (by omega) (by omega) hr]; exact hm4
  obtain ⟨c0, c1, c2, c3⟩ := h.at4 i hi
  exact ⟨key 0 _ (by omega) c0 rfl, key 1 _ (by omega) c1 rfl, key 2 _ (by omega) c2 rfl, key 3 _ (by omega) c3 rfl⟩
theorem wpList_app_run {P : Program} (w : World) {ops : Array Oper} {rest : List Oper} {o : Oper} {a : Act} {Q : Exit → Act → World → Prop} (hgd : o.guard = none) (s x : Operand) (t u : TypeId)
    (ho : o.op = .call { callee := .builtin .append, args := #[s, x], argTypes := #[t, u] }) {v' : Value} {w' : World} (hr : (Builtin.append_ #[t, u] o.type #[a.eval s, a.eval x]).run P w = .ok v' w') (h : wpList P ops Q rest (a.put o.dst v') w') :
    wpList P ops Q (o :: rest) a w := by
  refine wpList_plain hgd fun K hK => ?_
  unfold Oper.wp execOp
  simp only [ho, resolve, invoke, builtin, Sem.run_bind, Sem.run_pure, Result.andThen_ok, List.map_toArray, List.map_cons, List.map_nil, hr]
  exact hK _ _ h
/-- Where three marks lie in a row. -/
theorem m12_new (W : World) : ∀ j u, m12[j]? = some u → (W.alloc (.cells #[.int .i64 9, .int .i64 (-77), .string ⟨#[115, 112, 111, 105, 108, 116]⟩, .slice none 0 0, .int .i64 9, .int .i64 (-77), .string ⟨#[115, 112, 111, 105, 108, 116]⟩, .slice none 0 0, .int .i64 9, .int .i64 (-77), .string ⟨#[115, 112, 111, 105, 108, 116]⟩, .slice none 0 0] 24)).cell? ((⟨W.heap.size, 0, none⟩ : Addr).add j) = some u := by
  intro j u hj
  rw [addr_add, Nat.zero_add]
  have hl := (List.getElem?_eq_some_iff.1 hj).1
  have hm : m12.length = 12 := rfl
  rw [hm] at hl
  have : j = 0 ∨ j = 1 ∨ j = 2 ∨ j = 3 ∨ j = 4 ∨ j = 5 ∨ j = 6 ∨ j = 7 ∨ j = 8 ∨ j = 9 ∨ j = 10 ∨ j = 11 := by omega
  rcases this with rfl | rfl | rfl | rfl | rfl | rfl | rfl | rfl | rfl | rfl | rfl | rfl <;> (simp [m12, m4] at hj; subst hj; simp)
theorem m12_one : ∀ u ∈ m12, u.oneCell' = true := by
  intro u hu
  simp [m12, m4] at hu
  rcases hu with rfl | rfl | rfl | rfl | rfl | rfl | rfl | rfl | rfl | rfl | rfl | rfl <;> rfl

/-- What the loop keeps. -/
structure SpL (w : World) (b cap j : Nat) (W : World) : Prop where
  os : W.os = w.os
  tape : W.tape = w.tape
  output : W.output = w.output
  size : w.heap.size + 1 ≤ W.heap.size
  other : ∀ k, k < w.heap.size → k ≠ b → W.heap[k]? = w.heap[k]?
  box : BoxT W w.heap.size markV
  mks : MkT W b cap j
theorem SpL.next {w W : World} {b cap j : Nat} (h : SpL w b cap j W) (hb : b < w.heap.size) (hj : j < cap) : SpL w b cap (j + 1) (set4 W b (j * 4) markV) :=
  ⟨h.os, h.tape, h.output, by rw [set4_size]; exact h.size, fun k hk hn => (set4_other W b _ _ hn).trans (h.other k hk hn), (set4_other W b _ _ (by omega)).trans h.box, h.mks.next hj⟩
/-- What spoilt leaves. -/
structure Spoilt (w : World) (b cap : Nat) (W : World) : Prop where
  os : W.os = w.os
  tape : W.tape = w.tape
  output : W.output = w.output
  size : w.heap.size ≤ W.heap.size
  other : ∀ k, k < w.heap.size → k ≠ b → W.heap[k]? = w.heap[k]?
  mks : MkT W b cap cap

theorem Try.info_term : (Try.prog.info? 24).map (fun i => (i.zero, i.size, i.bytes)) = some (some (.agg #[.int .i64 0, .int .i64 0, .string ⟨#[]⟩, .slice none 0 0]), 4, 56) := by kernel_rfl

set_option maxRecDepth 100000 in
set_option maxHeartbeats 1000000 in
theorem spoiltT_row (b len cap : Nat) (w : World) (hr : Row4 w b cap) (hlc : len ≤ cap) (hcap : cap ≤ 100000000) :
    Calls Try.prog 28 #[.slice (some ⟨b, 0, none⟩) len cap, .agg #[.int .i64 9, .int .i64 (-77), .string ⟨#[115, 112, 111, 105, 108, 116]⟩, .slice none 0 0]] w fun e W' => e = .returned (.tuple #[]) ∧ Spoilt w b cap W' := by
  obtain ⟨i0, hi, hz0, hz1, hz2⟩ := info_parts Try.info_term
  have hblt := hr.lt
  have hB1 := (Below.refl _ w).alloc (Nat.le_refl _) (.cells #[.int .i64 9, .int .i64 (-77), .string ⟨#[115, 112, 111, 105, 108, 116]⟩, .slice none 0 0] 24)
  have hS : SpL w b cap 0 (w.alloc (.cells #[.int .i64 9, .int .i64 (-77), .string ⟨#[115, 112, 111, 105, 108, 116]⟩, .slice none 0 0] 24)) :=
    ⟨hB1.os, hB1.tape, hB1.output, by simp, fun k hk _ => hB1.block k hk, BoxT.new w markV, ⟨hr.kept (hB1.block b hblt), fun i hi => by omega⟩⟩
  have HS := hide hS
  have HI := hide hi
  have HZ0 := hide hz0
  have HZ1 := hide hz1
  have HZ2 := hide hz2
  clear hS hB1 hr hi hz0 hz1 hz2
  go_enter Try.func28, Try.ntmps28
  go_wp2_with fail
  go_loopw [12] (fun i wr => ∃ j : Nat, j ≤ cap ∧ i = .int .i64 j ∧ SpL w b cap j wr) (fun i _ => cap - (intOf i).toNat)
  case atStart => exact ⟨0, Nat.zero_le _, rfl, unhide HS⟩
  case round =>
    obtain ⟨j, hj, rfl, hs⟩ := hrel
    have c0 := hs.box.c0
    have c1 := hs.box.c1
    have c2 := hs.box.c2
    have c3 := hs.box.c3
    simp only [markV] at c0 c1 c2 c3
    by_cases hlt : j < cap
    · have hn := hs.next hblt hlt
      obtain ⟨⟨_, z0⟩, y0⟩ := hs.mks.row.cell (o := j * 4) (by omega)
      obtain ⟨⟨_, z1⟩, y1⟩ := hs.mks.row.cell (o := j * 4 + 1) (by omega)
      obtain ⟨⟨_, z2⟩, y2⟩ := hs.mks.row.cell (o := j * 4 + 2) (by omega)
      obtain ⟨⟨_, z3⟩, y3⟩ := hs.mks.row.cell (o := j * 4 + 3) (by omega)
      have HN := hide hn
      have hj1 : (j : Int) < cap := by omega
      clear hn hs
      go_wp2_with fail
      go_roundw
      case rel => exact ⟨j + 1, by omega, by go_num, unhide HN⟩
      case measure => simp [intOf]; omega
    · obtain rfl : j = cap := by omega
      have hj1 : ¬ (j : Int) < j := by omega
      have hbA : Below wr.heap.size wr (wr.alloc (.cells #[.int .i64 9, .int .i64 (-77), .string ⟨#[115, 112, 111, 105, 108, 116]⟩, .slice none 0 0, .int .i64 9, .int .i64 (-77), .string ⟨#[115, 112, 111, 105, 108, 116]⟩, .slice none 0 0, .int .i64 9, .int .i64 (-77), .string ⟨#[115, 112, 111, 105, 108, 116]⟩, .slice none 0 0] 24)) := (Below.refl _ wr).alloc (Nat.le_refl _) _
      have hnew := m12_new wr
      generalize hWA : wr.alloc (.cells #[.int .i64 9, .int .i64 (-77), .string ⟨#[115, 112, 111, 105, 108, 116]⟩, .slice none 0 0, .int .i64 9, .int .i64 (-77), .string ⟨#[115, 112, 111, 105, 108, 116]⟩, .slice none 0 0, .int .i64 9, .int .i64 (-77), .string ⟨#[115, 112, 111, 105, 108, 116]⟩, .slice none 0 0] 24) = WA at hbA hnew
      have hmA : MkT WA b j j := hs.mks.keep (hbA.block b hs.mks.row.lt)
      obtain ⟨cur, hg, hz⟩ := hmA.row
      have hfr : ∃ v' W', (Builtin.append_ #[22, 22] 22 #[.slice (some ⟨b, 0, none⟩) len j, .slice (some ⟨wr.heap.size, 0, none⟩) 3 3]).run Try.prog WA = .ok v' W' ∧ Spoilt w b j W' := by
        by_cases hroom : len + 3 ≤ j
        · have hrun := run_append_room (P := Try.prog) WA 22 22 24 i0 Try.underlying22 (unhide HI) b len j cur hg ⟨wr.heap.size, 0, none⟩ 3 3 m12 (by rw [unhide HZ1]; rfl) hnew m12_one hroom (by rw [unhide HZ1, hz]; have : m12.length = 12 := rfl; omega)
          rw [unhide HZ1] at hrun
          refine ⟨_, _, hrun, hbA.os.trans hs.os, hbA.tape.trans hs.tape, hbA.output.trans hs.output, ?_, fun k hk hn => ?_, hmA.over hg hz hroom⟩
          · rw [setRow_size]
            have := hbA.size
            have := hs.size
            omega
          · rw [setRow_other _ _ _ _ hn]
            exact (hbA.block k (by have := hs.size; omega)).trans (hs.other k hk hn)
        · have hc : ∀ o, WA.cell? ⟨b, o, none⟩ = cur.toList[o]? := fun o => by simp [World.cell?, hg]
          have hrun := run_append_grow (P := Try.prog) WA 22 22 24 i0 _ Try.underlying22 (unhide HI) (unhide HZ0) ⟨b, 0, none⟩ len j (cur.toList.take (len * 4)) (by rw [unhide HZ1]; simp; omega) (fun q u hq => by
            rw [addr_add, Nat.zero_add, hc]
            rw [List.getElem?_take] at hq
            split at hq
            · exact hq
            · cases hq) ⟨wr.heap.size, 0, none⟩ 3 3 m12 (by rw [unhide HZ1]; rfl) hnew (by omega) (by omega) (growslice_fits (by omega) (by rw [unhide HZ2]; omega))
          have hbG := (hbA.drew.alloc (show wr.heap.size ≤ WA.drew.heap.size from hbA.size) (.cells ((cur.toList.take (len * 4)).toArray ++ m12.toArray ++ Builtin.zeroCells (Value.agg #[.int .i64 0, .int .i64 0, .string ⟨#[]⟩, .slice none 0 0]).cells (grownCap WA (len + 3) j 24 - (len + 3))) 24))
          exact ⟨_, _, hrun, hbG.os.trans hs.os, hbG.tape.trans hs.tape, hbG.output.trans hs.output, by have := hbG.size; have := hs.size; omega, fun k hk hn => (hbG.block k (by have := hs.size; omega)).trans (hs.other k hk hn), hs.mks.keep (hbG.block b hs.mks.row.lt)⟩
      obtain ⟨v', W', hrun, hfin⟩ := hfr
      have HR := hide hrun
      have HF := hide hfin
      have HWA := hide hWA
      clear hrun hfin hWA hbA hnew hmA hg hs
      go_wp2_with (at_builtin; go_must (rw [unhide HWA]; refine wpList_app_run _ rfl _ _ 22 22 rfl (unhide HR) ?_))
      exact bodyPost_end (v := .tuple #[]) (by simp [results, Try.results28, go_sem]) rfl ⟨rfl, unhide HF⟩
end Go.Proofs.Ytcdgmjpgmiehcaa

