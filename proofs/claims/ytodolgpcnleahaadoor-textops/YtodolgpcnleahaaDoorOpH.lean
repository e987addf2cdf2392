import Derived.Test.YtodolgpcnleahaaDoorOpD
import Derived.Laws.MakeOwn
import Derived.Outline
import Derived.Maps.AppendAt
import Derived.OwnWalk
import Derived.Deep.DeepMust
/- Rows of operators that a call makes: the contracts of text.rows, slices.Grow and slices.Concat at operators. -/
namespace Go.Proofs.YtodolgpcnleahaaDoor
open Go.RowKit Go.Shelf Go.Maps

/-- An operator's three cells. -/
def oRow (x : OV) : List Value := [.string x.name, .int .i64 x.prio, .int .i64 x.type]
theorem oRow_at : ∀ (l : List OV) (j : Nat) (p : OV), l[j]? = some p → ∀ (q : Nat) u, (oRow p)[q]? = some u → (l.flatMap oRow)[j * 3 + q]? = some u
  | [], j, p, h => by simp at h
  | y :: l, 0, p, h => by
    intro q u hu
    simp at h; subst h
    rw [List.flatMap_cons, List.getElem?_append_left (by have := (List.getElem?_eq_some_iff.1 hu).1; simpa [oRow] using this)]
    simpa using hu
  | y :: l, j + 1, p, h => by
    intro q u hu
    have ih := oRow_at l j p (by simpa using h) q u hu
    rw [List.flatMap_cons, List.getElem?_append_right (by simp [oRow]; omega)]
    rw [show (j + 1) * 3 + q - (oRow y).length = j * 3 + q by simp [oRow]; omega]
    exact ih
theorem oRow_one : ∀ (l : List OV), ∀ u ∈ l.flatMap oRow, u.oneCell' = true := by
  intro l u hu
  obtain ⟨p, _, hp⟩ := List.mem_flatMap.1 hu
  simp [oRow] at hp
  rcases hp with rfl | rfl | rfl <;> rfl
theorem oRow_len (l : List OV) : (l.flatMap oRow).length = l.length * 3 := by
  induction l with
  | nil => rfl
  | cons x l ih => rw [List.flatMap_cons, List.length_append, ih]; simp [oRow]; omega
theorem addrAdd (b o n : Nat) : Addr.add ⟨b, o, none⟩ n = ⟨b, o + n, none⟩ := by
  simp [Addr.add]
theorem IsO.cells {W : World} {b off len : Nat} {l : List OV} (h : IsO W (some ⟨b, off, none⟩) len l) : ∀ j u, (l.flatMap oRow)[j]? = some u → W.cell? ((⟨b, off, none⟩ : Addr).add j) = some u := by
  intro j u hj
  rw [addrAdd]
  have hjl := (List.getElem?_eq_some_iff.1 hj).1
  rw [oRow_len] at hjl
  have hq : j / 3 < l.length := by omega
  obtain ⟨p, hp⟩ : ∃ p, l[j / 3]? = some p := ⟨_, List.getElem?_eq_getElem hq⟩
  have hr := oRow_at l (j / 3) p hp (j % 3)
  have hlt3 : j % 3 < (oRow p).length := by simp [oRow]; omega
  have hu : (oRow p)[j % 3]? = some u := by
    have h4 := hr _ (List.getElem?_eq_getElem hlt3)
    rw [show j / 3 * 3 + j % 3 = j by omega, hj] at h4
    rw [List.getElem?_eq_getElem hlt3, h4]
  have hne : l ≠ [] := by rintro rfl; simp at hp
  obtain ⟨b', off', ha, _, hk⟩ := h.2.2.resolve_left hne
  simp at ha
  obtain ⟨rfl, rfl⟩ := ha
  obtain ⟨k0, k1, k2⟩ := hk _ p hp
  have e : j = j / 3 * 3 + j % 3 := by omega
  have h3 : j % 3 = 0 ∨ j % 3 = 1 ∨ j % 3 = 2 := by omega
  rcases h3 with h3 | h3 | h3
  · rw [h3] at hu e; simp [oRow] at hu; subst hu; rw [e]; simpa using k0
  · rw [h3] at hu e; simp [oRow] at hu; subst hu; rw [e]; rw [← Nat.add_assoc]; exact k1
  · rw [h3] at hu e; simp [oRow] at hu; subst hu; rw [e]; rw [← Nat.add_assoc]; exact k2
/-- A row of operators of the call's own. -/
def OwnO (base : Nat) (W : World) (v : Value) (l : List OV) : Prop := W.ownsRow base 27 3 v l.length (l.flatMap oRow)
theorem OwnO.isO {base : Nat} {W : World} {v : Value} {l : List OV} (h : OwnO base W v l) (hl : l.length ≤ 9223372036854775807) : ∃ a cap, v = .slice a l.length cap ∧ IsO W a l.length l := by
  obtain ⟨_, h2⟩ := h
  rcases h2 with ⟨hv, hn⟩ | ⟨g, cap, cur, hv, hg, hb, _, _, _, htk⟩
  · exact ⟨none, 0, by rw [hv, hn], rfl, hl, .inl (List.length_eq_zero_iff.1 hn)⟩
  · have hc : ∀ q u, (l.flatMap oRow)[q]? = some u → W.cell? ⟨g, q, none⟩ = some u := fun q u hq => by
      rw [← htk, List.getElem?_take] at hq
      split at hq
      · simp [World.cell?, hb]
        simpa using hq
      · cases hq
    refine ⟨_, cap, hv, rfl, hl, .inr ⟨g, 0, rfl, (Array.getElem?_eq_some_iff.1 hb).1, fun j x hj => ?_⟩⟩
    have hr := oRow_at l j x hj
    refine ⟨?_, ?_, ?_⟩
    · rw [Nat.zero_add]; exact hc _ _ (hr 0 _ rfl)
    · rw [Nat.zero_add]; exact hc _ _ (hr 1 _ rfl)
    · rw [Nat.zero_add]; exact hc _ _ (hr 2 _ rfl)

theorem Tryd.infoOp : (Tryd.prog.info? 27).map (fun i => (i.zero, i.size, i.bytes)) = some (some (.agg #[.string ⟨#[]⟩, .int .i64 0, .int .i64 0]), 3, 32) := by kernel_rfl
theorem Tryd.underOpSlice : Tryd.prog.underlying 22 = some (.slice 27) := by kernel_rfl
theorem Tryd.underInt : Tryd.prog.underlying 3 = some (.int .i64) := by kernel_rfl

/-- append(nil, make([]api.Op, n)...). -/
theorem run_grow (ty : TypeId) (n : Nat) (h0 : 0 < n) (hn : n ≤ 100000) (w : World) :
    ∃ cap arr, (Builtin.append_ #[22, 3] ty #[.slice none 0 0, .int .i64 (n : Int)]).run Tryd.prog w = .ok (.slice (some ⟨w.heap.size, 0, none⟩) n cap) (w.drew.alloc (.cells arr 27)) ∧ n ≤ cap ∧ cap ≤ maxLen ∧ arr.size = cap * 3 := by
  obtain ⟨i, hi, hz0, hz1, hz2⟩ := info_parts Tryd.infoOp
  have hne : n ≠ 0 := by omega
  have hlt : ¬ ((n : Int) < 0) := by omega
  have hw : IntKind.i64.wrap (n : Int) = n := by simp [IntKind.wrap, IntKind.bits, IntKind.signed]; omega
  have h48' : ¬ (281474976710656 < Builtin.nextslicecap n 0 * i.bytes) := by rw [nextslicecap_zero h0, hz2]; omega
  have h49 : ¬ (281474976710656 < (n : Int) * i.bytes) := by rw [hz2]; omega
  have h63' : ¬ (9223372036854775807 < (n : Int)) := by omega
  have hge := grownCap_ge w n 0 27
  have hle := grownCap_le_maxLen w n 0 27 (by unfold maxLen; omega)
  refine ⟨grownCap w n 0 27, Builtin.zeroCells #[.string ⟨#[]⟩, .int .i64 0, .int .i64 0] n ++ Builtin.zeroCells #[.string ⟨#[]⟩, .int .i64 0, .int .i64 0] (grownCap w n 0 27 - n), ?_, hge, hle, ?_⟩
  · simp [Builtin.append_, run_underlying Tryd.underOpSlice, run_underlying Tryd.underInt, sizeOf, typeInfo, zeroValue, hi, hz0, hz1, hne, hlt, hw, h63', h48', h49, Question.forced, run_firstCells_none, newRow, grownCap, asInt, asIntOf, Value.cells]
    intro h
    omega
  · simp [size_zeroCells]; omega

theorem wpList_append_run {P : Program} (w : World) {ops : Array Oper} {rest : List Oper} {o : Oper} {a : Act} {Q : Exit → Act → World → Prop} (hgd : o.guard = none) (s x : Operand) (t u : TypeId)
    (ho : o.op = .call { callee := .builtin .append, args := #[s, x], argTypes := #[t, u] }) {v' : Value} {w' : World} (hr : (Builtin.append_ #[t, u] o.type #[a.eval s, a.eval x]).run P w = .ok v' w') (h : wpList P ops Q rest (a.put o.dst v') w') :
    wpList P ops Q (o :: rest) a w := by
  refine wpList_plain hgd fun K hK => ?_
  unfold Oper.wp execOp
  simp only [ho, resolve, invoke, builtin, Sem.run_bind, Sem.run_pure, Result.andThen_ok, List.map_toArray, List.map_cons, List.map_nil, hr]
  exact hK _ _ h

set_option maxRecDepth 100000 in
set_option maxHeartbeats 1000000 in
theorem grow_any (n : Nat) (h0 : 0 < n) (hn : n ≤ 100000) (w : World) :
    Calls Tryd.prog 12 #[.slice none 0 0, .int .i64 (n : Int)] w fun e W' => ∃ v, e = .returned v ∧ Below w.heap.size w W' ∧ OwnO w.heap.size W' v [] := by
  obtain ⟨cap, arr, hr, h1, h2, h3⟩ := run_grow 22 n h0 hn w
  have hfin : ∃ v, Ending.returned (.slice (some ⟨w.heap.size, 0, none⟩) 0 cap) = Ending.returned v ∧ Below w.heap.size w (w.drew.alloc (.cells arr 27)) ∧ OwnO w.heap.size (w.drew.alloc (.cells arr 27)) v [] :=
    ⟨_, rfl, (Below.refl _ w).drew.alloc (Nat.le_refl _) _, rfl, .inr ⟨w.heap.size, cap, arr, rfl, Nat.le_refl _, heap_alloc_new w.drew _, Nat.zero_le _, h2, h3, by simp⟩⟩
  have HF := hd hfin
  have HR := hd hr
  clear hfin h2 h3 hr
  have g0 : (0 : Int) < n := by omega
  have g1 : ¬ (n : Int) < 0 := by omega
  go_enter Tryd.func12, Tryd.ntmps12
  go_wp2_with (at_builtin; go_must (refine wpList_append_run _ rfl _ _ 22 3 rfl (uh HR) ?_))
  go_ret
  exact uh HF
end Go.Proofs.YtodolgpcnleahaaDoor

