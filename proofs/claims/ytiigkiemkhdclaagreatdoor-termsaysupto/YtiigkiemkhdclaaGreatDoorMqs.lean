import Derived.Test.YtiigkiemkhdclaaGreatDoorAks
import Derived.Test.YtiigkiemkhdclaaGreatDoorNms
import Derived.Laws.AppendOwnNone
import Derived.Test.YtiigkiemkhdclaaGreatDoorQs
import Derived.Test.YtiigkiemkhdclaaGreatDoorMps
/- Rows of pairs of terms: in memory (IsP), and made by a call (MadeP). -/
namespace Go.Proofs.YtiigkiemkhdclaaGreatDoor
open Go.RowKit Go.Shelf Go.Maps

def pRow (p : TV × TV) : List Value := p.1.row ++ p.2.row
def cpP {n : Nat} (ps : List (Tm n × Tm n)) : List Pr := ps.map fun p => (code p.1, code p.2)
theorem pRow_at : ∀ (l : List (TV × TV)) (j : Nat) (p : TV × TV), l[j]? = some p → ∀ (q : Nat) u, (pRow p)[q]? = some u → (l.flatMap pRow)[j * 8 + q]? = some u
  | [], j, p, h => by simp at h
  | y :: l, 0, p, h => by
    simp at h; subst h
    intro q u hq
    rw [List.flatMap_cons, Nat.zero_mul, Nat.zero_add, List.getElem?_append_left (List.getElem?_eq_some_iff.1 hq).1]
    exact hq
  | y :: l, j + 1, p, h => by
    intro q u hq
    have ih := pRow_at l j p (by simpa using h) q u hq
    rw [List.flatMap_cons, List.getElem?_append_right (by simp [pRow, TV.row]; omega)]
    have : (j + 1) * 8 + q - (pRow y).length = j * 8 + q := by simp [pRow, TV.row]; omega
    rw [this]
    exact ih
theorem pRow_one : ∀ (l : List (TV × TV)), ∀ u ∈ l.flatMap pRow, u.oneCell' = true := by
  intro l u hu
  obtain ⟨p, _, hp⟩ := List.mem_flatMap.1 hu
  rcases List.mem_append.1 hp with h | h
  · exact row_one u h
  · exact row_one u h
theorem pRow_len (l : List (TV × TV)) : (l.flatMap pRow).length = l.length * 8 := by
  induction l with
  | nil => rfl
  | cons x l ih => rw [List.flatMap_cons, List.length_append, ih]; simp [pRow, TV.row]; omega

/-- Pairs of terms in memory. -/
def IsP (n₀ : Nat) (W : World) {n : Nat} (a : Option Addr) (len : Nat) (ps : List (Tm n × Tm n)) : Prop :=
  len = ps.length ∧ len ≤ 1152921504606846976 ∧ (ps = [] ∨ ∃ b off, a = some ⟨b, off, none⟩ ∧ b < n₀ ∧ ∀ (j : Nat) p, ps[j]? = some p → cellsAt W b (off + j * 8) p.1.tv ∧ cellsAt W b (off + j * 8 + 4) p.2.tv ∧ IsT n₀ W p.1 ∧ IsT n₀ W p.2)
theorem IsP.below {n₀ : Nat} {A B : World} (h : Below n₀ A B) {n : Nat} {a : Option Addr} {len : Nat} {ps : List (Tm n × Tm n)} (hl : IsP n₀ A a len ps) : IsP n₀ B a len ps := by
  obtain ⟨h1, h2, h3⟩ := hl
  refine ⟨h1, h2, ?_⟩
  rcases h3 with h3 | ⟨b, off, ha, hb, hk⟩
  · exact .inl h3
  · refine .inr ⟨b, off, ha, hb, fun j p hp => ?_⟩
    obtain ⟨k1, k2, k3, k4⟩ := hk j p hp
    exact ⟨k1.kept (h.block b hb), k2.kept (h.block b hb), k3.below h, k4.below h⟩
theorem IsP.mono {n₀ n₁ : Nat} (hle : n₀ ≤ n₁) {A : World} {n : Nat} {a : Option Addr} {len : Nat} {ps : List (Tm n × Tm n)} (hl : IsP n₀ A a len ps) : IsP n₁ A a len ps := by
  obtain ⟨h1, h2, h3⟩ := hl
  refine ⟨h1, h2, ?_⟩
  rcases h3 with h3 | ⟨b, off, ha, hb, hk⟩
  · exact .inl h3
  · exact .inr ⟨b, off, ha, by omega, fun j p hp => by
      obtain ⟨k1, k2, k3, k4⟩ := hk j p hp
      exact ⟨k1, k2, k3.mono hle, k4.mono hle⟩⟩
/-- The j-th pair, in a later world. -/
theorem pair_at {n : Nat} {w wr : World} {a : Option Addr} {len : Nat} {ps : List (Tm n × Tm n)} (hl : IsP w.heap.size w a len ps) (hbw : Below w.heap.size w wr) {j : Nat} (hj : j < len) :
    ∃ u v b off, ps[j]? = some (u, v) ∧ a = some ⟨b, off, none⟩ ∧ b < w.heap.size ∧ IsT wr.heap.size wr u ∧ IsT wr.heap.size wr v ∧ cellsAt wr b (off + j * 8) u.tv ∧ cellsAt wr b (off + j * 8 + 4) v.tv := by
  obtain ⟨h1, h2, h3⟩ := hl.below hbw
  obtain ⟨p, hp⟩ : ∃ p, ps[j]? = some p := ⟨ps[j]'(by omega), List.getElem?_eq_getElem (by omega)⟩
  have hne : ps ≠ [] := by rintro rfl; simp at hp
  obtain ⟨b, off, ha, hb, hk⟩ := h3.resolve_left hne
  obtain ⟨k1, k2, k3, k4⟩ := hk j p hp
  exact ⟨p.1, p.2, b, off, hp, ha, hb, k3.mono hbw.size, k4.mono hbw.size, k1, k2⟩

/-- Pairs that a call keeps in a row of its own; their terms lie below n₀. -/
structure MadeP (D n₀ base : Nat) (W : World) (v : Value) (l : List (TV × TV)) (c : List Pr) : Prop where
  owns : W.ownsRow base 114 8 v l.length (l.flatMap pRow)
  kids : ∀ M, D ≤ M → ∃ ks : List (Tm M × Tm M), ks.map (fun p => (p.1.tv, p.2.tv)) = l ∧ (∀ p ∈ ks, IsT n₀ W p.1 ∧ IsT n₀ W p.2) ∧ cpP ks = c
theorem MadeP.zero (D n₀ base : Nat) (W : World) : MadeP D n₀ base W (.slice none 0 0) [] [] :=
  ⟨⟨rfl, .inl ⟨rfl, rfl⟩⟩, fun _ _ => ⟨[], rfl, (fun u hu => by cases hu), rfl⟩⟩
theorem MadeP.slice {D n₀ base : Nat} {W : World} {v : Value} {l : List (TV × TV)} {c : List Pr} (h : MadeP D n₀ base W v l c) : ∃ a cap, v = .slice a l.length cap := by
  obtain ⟨_, h2⟩ := h.owns
  rcases h2 with ⟨hv, hn⟩ | ⟨g, cap, cur, hv, _⟩
  · exact ⟨none, 0, by rw [hv, hn]⟩
  · exact ⟨_, cap, hv⟩
theorem MadeP.len {D n₀ base : Nat} {W : World} {v : Value} {l : List (TV × TV)} {c : List Pr} (h : MadeP D n₀ base W v l c) : c.length = l.length := by
  obtain ⟨ks, k1, _, k3⟩ := h.kids D (Nat.le_refl _)
  rw [← k1, ← k3]; simp [cpP]
theorem MadeP.isP {D n₀ base : Nat} {W : World} {v : Value} {l : List (TV × TV)} {c : List Pr} (h : MadeP D n₀ base W v l c) (hl : l.length ≤ 1152921504606846976) (hn : n₀ ≤ W.heap.size) :
    ∃ a cap, v = .slice a l.length cap ∧ ∀ M, D ≤ M → ∃ ks : List (Tm M × Tm M), IsP W.heap.size W a l.length ks ∧ cpP ks = c ∧ ∀ p ∈ ks, IsT n₀ W p.1 ∧ IsT n₀ W p.2 := by
  obtain ⟨_, h2⟩ := h.owns
  rcases h2 with ⟨hv, hn'⟩ | ⟨g, cap, cur, hv, hg, hb, hnc, _, hcs, htk⟩
  · have hnil : l = [] := List.length_eq_zero_iff.1 hn'
    subst hnil
    refine ⟨none, 0, hv, fun M hM => ?_⟩
    obtain ⟨ks, k1, k2, k3⟩ := h.kids M hM
    have hk : ks = [] := by simpa using k1
    exact ⟨ks, ⟨by simp [hk], by simp, .inl hk⟩, k3, k2⟩
  · refine ⟨some ⟨g, 0, none⟩, cap, hv, fun M hM => ?_⟩
    obtain ⟨ks, k1, k2, k3⟩ := h.kids M hM
    have hkl : l.length = ks.length := by rw [← k1]; simp
    have hc : ∀ q u, (l.flatMap pRow)[q]? = some u → W.cell? ⟨g, q, none⟩ = some u := fun q u hq => by
      rw [← htk, List.getElem?_take] at hq
      split at hq
      · simp [World.cell?, hb]
        simpa using hq
      · cases hq
    refine ⟨ks, ⟨hkl, hl, .inr ⟨g, 0, rfl, (Array.getElem?_eq_some_iff.1 hb).1, fun j p hp => ?_⟩⟩, k3, k2⟩
    have hlj : l[j]? = some (p.1.tv, p.2.tv) := by rw [← k1, List.getElem?_map, hp]; rfl
    have hr := pRow_at l j _ hlj
    rw [Nat.zero_add]
    obtain ⟨z1, z2⟩ := k2 p (List.mem_of_getElem? hp)
    exact ⟨⟨hc _ _ (by simpa using hr 0 _ rfl), hc _ _ (hr 1 _ rfl), hc _ _ (hr 2 _ rfl), hc _ _ (hr 3 _ rfl)⟩, ⟨hc _ _ (hr 4 _ rfl), hc _ _ (hr 5 _ rfl), hc _ _ (hr 6 _ rfl), hc _ _ (hr 7 _ rfl)⟩, z1.mono hn, z2.mono hn⟩
theorem MadeP.below {D n₀ base : Nat} {W W' : World} {v : Value} {l : List (TV × TV)} {c : List Pr} (h : MadeP D n₀ base W v l c) (hb : Below W.heap.size W W') (hn : n₀ ≤ W.heap.size) : MadeP D n₀ base W' v l c :=
  ⟨owns_below h.owns (fun g hg => hb.block g (owns_lt h.owns hg).2), fun M hM => by
    obtain ⟨ks, k1, k2, k3⟩ := h.kids M hM
    exact ⟨ks, k1, fun p hp => ⟨(k2 p hp).1.below (hb.mono hn), (k2 p hp).2.below (hb.mono hn)⟩, k3⟩⟩
/-- More of them, behind an append. -/
theorem MadeP.next {D n₀ base base' : Nat} {W W6 w' : World} {v v' v6 : Value} {l l' : List (TV × TV)} {c c' : List Pr} (h : MadeP D n₀ base W v l c) (hb : Below n₀ W W6) (h6 : MadeP D n₀ base' W6 v6 l' c')
    (hown : w'.ownsRow base 114 8 v' (l.length + l'.length) (l.flatMap pRow ++ l'.flatMap pRow)) (hg : Below n₀ W6 w') : MadeP D n₀ base w' v' (l ++ l') (c ++ c') := by
  refine ⟨by simpa [List.flatMap_append] using hown, fun M hM => ?_⟩
  obtain ⟨ks, k1, k2, k3⟩ := h.kids M hM
  obtain ⟨ks', j1, j2, j3⟩ := h6.kids M hM
  refine ⟨ks ++ ks', by simp [k1, j1], fun p hp => ?_, by unfold cpP at *; simp [k3, j3]⟩
  rcases List.mem_append.1 hp with hp | hp
  · exact ⟨((k2 p hp).1.below hb).below hg, ((k2 p hp).2.below hb).below hg⟩
  · exact ⟨(j2 p hp).1.below hg, (j2 p hp).2.below hg⟩
theorem pRow_src {D n₀ base : Nat} {W : World} {v : Value} {l : List (TV × TV)} {c : List Pr} (h : MadeP D n₀ base W v l c) (h1 : 1 ≤ l.length) :
    ∃ g cap, v = .slice (some ⟨g, 0, none⟩) l.length cap ∧ ∀ j u, (l.flatMap pRow)[j]? = some u → W.cell? ((⟨g, 0, none⟩ : Addr).add j) = some u := by
  obtain ⟨_, h2⟩ := h.owns
  rcases h2 with ⟨_, hn⟩ | ⟨g, cap, cur, hv, hg, hb, _, _, _, htk⟩
  · omega
  · refine ⟨g, cap, hv, fun j u hj => ?_⟩
    rw [addr_add, Nat.zero_add]
    rw [← htk, List.getElem?_take] at hj
    split at hj
    · simp [World.cell?, hb]
      simpa using hj
    · cases hj
theorem Tryz.info_pair : (Tryz.prog.info? 114).map (fun i => (i.zero, i.size, i.bytes)) = some (some (.agg #[.int .i64 0, .int .i64 0, .string ⟨#[]⟩, .slice none 0 0, .int .i64 0, .int .i64 0, .string ⟨#[]⟩, .slice none 0 0]), 8, 112) := by kernel_rfl
/-- An append that an equation tells: a step of a walk by hand. -/
theorem wp_append_row {P : Program} {w w' : World} {o : Oper} {a : Act} {K : Act → World → Prop} {Q : Exit → Act → World → Prop} (s x : Operand) (t : TypeId) {v u v' : Value}
    (ho : o.op = .call { callee := .builtin .append, args := #[s, x], argTypes := #[t, t] }) (hs : a.eval s = v) (hx : a.eval x = u) (hr : (Builtin.append_ #[t, t] o.type #[v, u]).run P w = .ok v' w') (h : K (a.put o.dst v') w') : Oper.wp P o a w K Q := by
  unfold Oper.wp execOp
  simp only [ho, resolve, invoke, builtin, Sem.run_bind, Sem.run_pure, Result.andThen_ok, List.map_toArray, List.map_cons, List.map_nil, hs, hx, hr]
  exact h
/-- One row of pairs behind another. -/
theorem MadeP.append {D n₀ base base' : Nat} {W : World} {v v' : Value} {l l' : List (TV × TV)} {c c' : List Pr} (h : MadeP D n₀ base W v l c) (h' : MadeP D n₀ base' W v' l' c') (ty : TypeId) (hl : l.length + l'.length ≤ 1000000000) (hn : n₀ ≤ base) (hb : base ≤ W.heap.size) :
    ∃ u w', (Builtin.append_ #[110, 110] ty #[v, v']).run Tryz.prog W = .ok u w' ∧ MadeP D n₀ base w' u (l ++ l') (c ++ c') ∧ W.grownBy w' v.ownBlock := by
  obtain ⟨i0, hi, hz0, hz1, hz2⟩ := info_parts Tryz.info_pair
  by_cases h0 : l' = []
  · subst h0
    have hc0 : c' = [] := List.length_eq_zero_iff.1 (by rw [h'.len]; rfl)
    subst hc0
    obtain ⟨_, g2⟩ := h'.owns
    rcases g2 with ⟨hv, _⟩ | ⟨g, cap, cur, hv, hg, hbk, hnc, hcm, hcs, htk⟩
    · rw [hv]
      exact ⟨v, W, run_append_owned_none (P := Tryz.prog) (w := W) base 110 ty 114 i0 8 Tryz.underlying110 hi v _ _ h.owns, by simpa using h, ⟨rfl, rfl, rfl, Nat.le_refl _, fun _ _ _ => rfl⟩⟩
    · obtain ⟨u, w', hr, hown, hgrow, _⟩ := run_append_own_at (P := Tryz.prog) W base 110 ty 114 i0 _ 8 112 Tryz.underlying110 hi hz0 hz1 hz2 rfl (by decide) v _ _ h.owns ⟨g, 0, none⟩ 0 cap [] rfl (fun j u hj => by simp at hj) (fun u hu => by cases hu) (by unfold maxLen; omega) (by omega) hb
      rw [hv]
      exact ⟨u, w', hr, h.next (Below.refl _ _) (MadeP.zero D n₀ base W) (by simpa using hown) ((Below.refl _ W).grown hgrow (by omega) (fun g hg => Nat.le_trans hn (owns_lt h.owns hg).1)), hgrow⟩
  · obtain ⟨g, cap, hv, hsrc⟩ := pRow_src h' (by cases l' with | nil => exact (h0 rfl).elim | cons _ _ => simp)
    obtain ⟨u, w', hr, hown, hgrow, _⟩ := run_append_own_at (P := Tryz.prog) W base 110 ty 114 i0 _ 8 112 Tryz.underlying110 hi hz0 hz1 hz2 rfl (by decide) v _ _ h.owns ⟨g, 0, none⟩ l'.length cap (l'.flatMap pRow) (pRow_len _) hsrc (pRow_one _) (by unfold maxLen; omega) (by omega) hb
    rw [hv]
    exact ⟨u, w', hr, h.next (Below.refl _ _) h' hown ((Below.refl _ W).grown hgrow (by omega) (fun g hg => Nat.le_trans hn (owns_lt h.owns hg).1)), hgrow⟩
end Go.Proofs.YtiigkiemkhdclaaGreatDoor

/- The contract of hornref.nth: where a pair stands in a row of pairs. -/
namespace Go.Proofs.YtiigkiemkhdclaaGreatDoor
open Go.RowKit Go.Shelf Go.Maps

/-- What nth answers. -/
def nthI (cs : List Pr) (q : Pr) : Int := if q ∈ cs then (cs.idxOf q : Nat) else -1
theorem nthI_at {cs : List Pr} {q : Pr} {j : Nat} (h : cs[j]? = some q) (hn : ∀ (i : Nat) p, cs[i]? = some p → i < j → p ≠ q) : nthI cs q = (j : Nat) := by
  unfold nthI
  rw [if_pos (List.mem_of_getElem? h)]
  obtain ⟨hj, hjN⟩ := List.getElem?_eq_some_iff.1 h
  have h1 : cs.idxOf q < cs.length := List.idxOf_lt_length_of_mem (List.mem_of_getElem? h)
  have h2 : cs[cs.idxOf q] = q := List.getElem_idxOf h1
  have h3 : ¬ cs.idxOf q < j := fun hlt => hn _ _ (List.getElem?_eq_getElem h1) hlt h2
  have h4 : ¬ j < cs.idxOf q := fun hlt => by
    have := List.not_of_lt_findIdx (p := (· == q)) (xs := cs) (i := j) hlt
    simp [hjN] at this
  have : cs.idxOf q = j := by omega
  rw [this]
theorem nthI_no {cs : List Pr} {q : Pr} (h : q ∉ cs) : nthI cs q = -1 := if_neg h

set_option maxRecDepth 100000 in
set_option maxHeartbeats 2000000 in
theorem nth_any {n : Nat} (ps : List (Tm n × Tm n)) (a : Option Addr) (len cap : Nat) (x y : Tm n) (w : World) (hps : IsP w.heap.size w a len ps) (hx : IsT w.heap.size w x) (hy : IsT w.heap.size w y) :
    Calls Tryz.prog 81 #[.slice a len cap, x.tv.val, y.tv.val] w fun e W' => e = .returned (.int .i64 (nthI (cpP ps) (code x, code y))) ∧ Below w.heap.size w W' := by
  have h1 := hps.1
  have h2 := hps.2.1
  have hl1 : len ≤ ps.length := by omega
  have hl2 : ps.length ≤ len := by omega
  clear h1
  obtain ⟨W1, hW1, hB1, hba, hbb, hsz⟩ := two_new w x.tv y.tv
  have HP := hide hps
  have HX := hide hx
  have HY := hide hy
  have HB1 := hide hB1
  have HBA := hide hba
  have HBB := hide hbb
  have HSZ := hide hsz
  clear hps hx hy hB1 hba hbb hsz
  simp only [TV.val]
  go_enter Tryz.func81, Tryz.ntmps81
  go_wp2_with fail
  clear hW1
  go_loopw [7] (fun i wr => ∃ j : Nat, j ≤ len ∧ i = .int .i64 j ∧ (∀ (i : Nat) p, (cpP ps)[i]? = some p → i < j → p ≠ (code x, code y)) ∧ Below W1.heap.size W1 wr) (fun i _ => len - (intOf i).toNat)
  case atStart => exact ⟨0, Nat.zero_le _, rfl, fun i p _ h => by omega, Below.refl _ _⟩
  case round =>
    obtain ⟨j, hj, rfl, hs, hb⟩ := hrel
    have hbw : Below w.heap.size w wr := (unhide HB1).trans (hb.mono (unhide HB1).size)
    have HS := hide hs
    clear hs
    by_cases hlt : j < len
    · obtain ⟨u, v, b, off, hu, rfl, hbk, hTu, hTv, ⟨c0, c1, c2, c3⟩, ⟨d0, d1, d2, d3⟩⟩ := pair_at (unhide HP) hbw hlt
      have hxr : IsT wr.heap.size wr x := ((unhide HX).below hbw).mono hbw.size
      have hyr : IsT wr.heap.size wr y := ((unhide HY).below hbw).mono hbw.size
      have hcj : (cpP ps)[j]? = some (code u, code v) := by unfold cpP; rw [List.getElem?_map, hu]; rfl
      have hbax : BoxT wr w.heap.size x.tv := (hb.block _ (by have := unhide HSZ; omega)).trans (unhide HBA)
      have hbbx : BoxT wr (w.heap.size + 1) y.tv := (hb.block _ (by have := unhide HSZ; omega)).trans (unhide HBB)
      have e0 := hbax.c0
      have e1 := hbax.c1
      have e2 := hbax.c2
      have e3 := hbax.c3
      have f0 := hbbx.c0
      have f1 := hbbx.c1
      have f2 := hbbx.c2
      have f3 := hbbx.c3
      have hdr : Below wr.heap.size wr wr.drew := (Below.refl _ wr).drew
      have hs1 : Calls Tryz.prog 41 #[.agg #[.int .i64 u.tv.k, .int .i64 u.tv.N, .string u.tv.s, .slice u.tv.a u.tv.len u.tv.cap], .agg #[.int .i64 x.tv.k, .int .i64 x.tv.N, .string x.tv.s, .slice x.tv.a x.tv.len x.tv.cap]] wr.drew fun e W2 => e = .returned (.bool (decide (code u = code x))) ∧ Below wr.heap.size wr W2 := by
        have h := same_any n u x wr.drew (hTu.below hdr) (hxr.below hdr)
        rw [sameT_code hTu.wl hxr.wl] at h
        exact h.mono fun e W2 h => ⟨h.1, hdr.trans h.2⟩
      have hs2 : ∀ W2, Below wr.heap.size wr W2 → Calls Tryz.prog 41 #[.agg #[.int .i64 v.tv.k, .int .i64 v.tv.N, .string v.tv.s, .slice v.tv.a v.tv.len v.tv.cap], .agg #[.int .i64 y.tv.k, .int .i64 y.tv.N, .string y.tv.s, .slice y.tv.a y.tv.len y.tv.cap]] W2 fun e W3 => e = .returned (.bool (decide (code v = code y))) ∧ Below wr.heap.size wr W3 := fun W2 hb2 => by
        have h := same_any n v y W2 ((hTv.below hb2).mono hb2.size) ((hyr.below hb2).mono hb2.size)
        rw [sameT_code hTv.wl hyr.wl] at h
        exact h.mono fun e W3 h => ⟨h.1, hb2.trans (h.2.mono hb2.size)⟩
      have hy0 : w.heap.size < wr.heap.size := hbax.lt
      have hy1 : w.heap.size + 1 < wr.heap.size := hbbx.lt
      have hy2 : b < wr.heap.size := by have := hbw.size; omega
      have hj1 : (j : Int) < len := by omega
      have hnext : (code u, code v) ≠ (code x, code y) → ∀ (i : Nat) p, (cpP ps)[i]? = some p → i < j + 1 → p ≠ (code x, code y) := fun hne i p hp hi => by
        by_cases e : i = j
        · subst e; rw [hcj] at hp; cases hp; exact hne
        · exact (unhide HS) i p hp (by omega)
      have hfound : code u = code x → code v = code y → nthI (cpP ps) (code x, code y) = (j : Nat) := fun e1 e2 => nthI_at (by rw [hcj, e1, e2]) (unhide HS)
      have HN := hide hnext
      have HF := hide hfound
      have HS2 := hide hs2
      clear hTu hTv hxr hyr hcj hbax hbbx hdr hnext hfound hs2 hu
      by_cases hux : code u = code x
      · rw [decide_eq_true hux] at hs1
        by_cases hvy : code v = code y
        · have HFO := hide ((unhide HF) hux hvy)
          have hs3 := fun W2 hb2 => (unhide HS2) W2 hb2
          rw [decide_eq_true hvy] at hs3
          clear hux hvy
          go_wp2_with fail
          go_region_held3 (fun w' => w'.cell? ⟨b, off + j * 8, none⟩ = some (.int .i64 u.tv.k) ∧ w'.cell? ⟨b, off + j * 8 + 1, none⟩ = some (.int .i64 u.tv.N) ∧ w'.cell? ⟨b, off + j * 8 + 2, none⟩ = some (.string u.tv.s) ∧ w'.cell? ⟨b, off + j * 8 + 3, none⟩ = some (.slice u.tv.a u.tv.len u.tv.cap)
            ∧ w'.cell? ⟨b, off + j * 8 + 4, none⟩ = some (.int .i64 v.tv.k) ∧ w'.cell? ⟨b, off + j * 8 + 4 + 1, none⟩ = some (.int .i64 v.tv.N) ∧ w'.cell? ⟨b, off + j * 8 + 4 + 2, none⟩ = some (.string v.tv.s) ∧ w'.cell? ⟨b, off + j * 8 + 4 + 3, none⟩ = some (.slice v.tv.a v.tv.len v.tv.cap)
            ∧ w'.cell? ⟨w.heap.size, 0, none⟩ = some (.int .i64 x.tv.k) ∧ w'.cell? ⟨w.heap.size, 1, none⟩ = some (.int .i64 x.tv.N) ∧ w'.cell? ⟨w.heap.size, 2, none⟩ = some (.string x.tv.s) ∧ w'.cell? ⟨w.heap.size, 3, none⟩ = some (.slice x.tv.a x.tv.len x.tv.cap)
            ∧ w'.cell? ⟨w.heap.size + 1, 0, none⟩ = some (.int .i64 y.tv.k) ∧ w'.cell? ⟨w.heap.size + 1, 1, none⟩ = some (.int .i64 y.tv.N) ∧ w'.cell? ⟨w.heap.size + 1, 2, none⟩ = some (.string y.tv.s) ∧ w'.cell? ⟨w.heap.size + 1, 3, none⟩ = some (.slice y.tv.a y.tv.len y.tv.cap)) (go_keep)
            (first | (go_at_call 41; refine hs1.mono ?_; clear hs1; rintro e W2 ⟨rfl, hb2⟩; have hbc := bcell hb2) | (go_at_call 41; refine (hs3 W2 hb2).mono ?_; clear hs3; rintro e W3 ⟨rfl, hb3⟩; have hbd := bcell hb3))
          clear hbc hbd
          go_wp2_with fail
          go_ret
          exact ⟨by rw [unhide HFO]; rfl, hbw.trans (hb3.mono hbw.size)⟩
        · have hne : (code u, code v) ≠ (code x, code y) := fun e => hvy (congrArg Prod.snd e)
          have HNN := hide ((unhide HN) hne)
          have hs3 := fun W2 hb2 => (unhide HS2) W2 hb2
          rw [decide_eq_false hvy] at hs3
          clear hux hvy hne
          go_wp2_with fail
          go_region_held3 (fun w' => w'.cell? ⟨b, off + j * 8, none⟩ = some (.int .i64 u.tv.k) ∧ w'.cell? ⟨b, off + j * 8 + 1, none⟩ = some (.int .i64 u.tv.N) ∧ w'.cell? ⟨b, off + j * 8 + 2, none⟩ = some (.string u.tv.s) ∧ w'.cell? ⟨b, off + j * 8 + 3, none⟩ = some (.slice u.tv.a u.tv.len u.tv.cap)
            ∧ w'.cell? ⟨b, off + j * 8 + 4, none⟩ = some (.int .i64 v.tv.k) ∧ w'.cell? ⟨b, off + j * 8 + 4 + 1, none⟩ = some (.int .i64 v.tv.N) ∧ w'.cell? ⟨b, off + j * 8 + 4 + 2, none⟩ = some (.string v.tv.s) ∧ w'.cell? ⟨b, off + j * 8 + 4 + 3, none⟩ = some (.slice v.tv.a v.tv.len v.tv.cap)
            ∧ w'.cell? ⟨w.heap.size, 0, none⟩ = some (.int .i64 x.tv.k) ∧ w'.cell? ⟨w.heap.size, 1, none⟩ = some (.int .i64 x.tv.N) ∧ w'.cell? ⟨w.heap.size, 2, none⟩ = some (.string x.tv.s) ∧ w'.cell? ⟨w.heap.size, 3, none⟩ = some (.slice x.tv.a x.tv.len x.tv.cap)
            ∧ w'.cell? ⟨w.heap.size + 1, 0, none⟩ = some (.int .i64 y.tv.k) ∧ w'.cell? ⟨w.heap.size + 1, 1, none⟩ = some (.int .i64 y.tv.N) ∧ w'.cell? ⟨w.heap.size + 1, 2, none⟩ = some (.string y.tv.s) ∧ w'.cell? ⟨w.heap.size + 1, 3, none⟩ = some (.slice y.tv.a y.tv.len y.tv.cap)) (go_keep)
            (first | (go_at_call 41; refine hs1.mono ?_; clear hs1; rintro e W2 ⟨rfl, hb2⟩; have hbc := bcell hb2) | (go_at_call 41; refine (hs3 W2 hb2).mono ?_; clear hs3; rintro e W3 ⟨rfl, hb3⟩; have hbd := bcell hb3))
          clear hbc hbd
          go_wp2_with fail
          go_roundw
          case rel => exact ⟨j + 1, by omega, by go_num, unhide HNN, hb.trans (hb3.mono hb.size)⟩
          case measure => simp [intOf]; omega
      · rw [decide_eq_false hux] at hs1
        have hne : (code u, code v) ≠ (code x, code y) := fun e => hux (congrArg Prod.fst e)
        have HNN := hide ((unhide HN) hne)
        clear hux hne
        go_wp2_with fail
        refine wp_region_noPanic ?_
        refine wp_region_held_drew (S := (fun w' => w'.cell? ⟨b, off + j * 8, none⟩ = some (.int .i64 u.tv.k) ∧ w'.cell? ⟨b, off + j * 8 + 1, none⟩ = some (.int .i64 u.tv.N) ∧ w'.cell? ⟨b, off + j * 8 + 2, none⟩ = some (.string u.tv.s) ∧ w'.cell? ⟨b, off + j * 8 + 3, none⟩ = some (.slice u.tv.a u.tv.len u.tv.cap) ∧ w'.cell? ⟨b, off + j * 8 + 4, none⟩ = some (.int .i64 v.tv.k) ∧ w'.cell? ⟨b, off + j * 8 + 4 + 1, none⟩ = some (.int .i64 v.tv.N) ∧ w'.cell? ⟨b, off + j * 8 + 4 + 2, none⟩ = some (.string v.tv.s) ∧ w'.cell? ⟨b, off + j * 8 + 4 + 3, none⟩ = some (.slice v.tv.a v.tv.len v.tv.cap) ∧ w'.cell? ⟨w.heap.size, 0, none⟩ = some (.int .i64 x.tv.k) ∧ w'.cell? ⟨w.heap.size, 1, none⟩ = some (.int .i64 x.tv.N) ∧ w'.cell? ⟨w.heap.size, 2, none⟩ = some (.string x.tv.s) ∧ w'.cell? ⟨w.heap.size, 3, none⟩ = some (.slice x.tv.a x.tv.len x.tv.cap) ∧ w'.cell? ⟨w.heap.size + 1, 0, none⟩ = some (.int .i64 y.tv.k) ∧ w'.cell? ⟨w.heap.size + 1, 1, none⟩ = some (.int .i64 y.tv.N) ∧ w'.cell? ⟨w.heap.size + 1, 2, none⟩ = some (.string y.tv.s) ∧ w'.cell? ⟨w.heap.size + 1, 3, none⟩ = some (.slice y.tv.a y.tv.len y.tv.cap))) (by kernel_rfl) ?_ (fun hHeld => ?_)
        · go_keep
        refine wpAnyH_take (i := 0) (oi := { dst := some 14, op := Op.move (Operand.tmp 0), type := 110, pos := "term.go:280", after := #[], guard := none }) (v := ?_) rfl (by kernel_rfl) (by kernel_rfl) (by kernel_rfl) (fun _ _ _ h => h) (Or.inl ⟨by rfl, ?_⟩) hHeld ?_
        rotate_left
        · (intro w' hSw; (try dsimp only at hSw); go_simp; try with_reducible rfl)
        try simp only [Act.put, List.setIfInBounds_toArray, List.set_cons_zero, List.set_cons_succ]
        refine wpAnyH_take (i := 1) (oi := { dst := some 15, op := Op.move (Operand.tmp 7), type := 3, pos := "term.go:280", after := #[], guard := none }) (v := ?_) rfl (by kernel_rfl) (by kernel_rfl) (by kernel_rfl) (fun _ _ _ h => h) (Or.inl ⟨by rfl, ?_⟩) hHeld ?_
        rotate_left
        · (intro w' hSw; (try dsimp only at hSw); go_simp; try with_reducible rfl)
        try simp only [Act.put, List.setIfInBounds_toArray, List.set_cons_zero, List.set_cons_succ]
        refine wpAnyH_take (i := 2) (oi := { dst := some 16, op := Op.indexAddr 110 (Operand.tmp 14) (Operand.tmp 15), type := 0, pos := "term.go:280", after := #[{ on := 0, ground := Ground.data }, { on := 1, ground := Ground.data }], guard := none }) (v := ?_) rfl (by kernel_rfl) (by kernel_rfl) (by kernel_rfl) (fun _ _ _ h => h) (Or.inl ⟨by rfl, ?_⟩) hHeld ?_
        rotate_left
        · (intro w' hSw; (try dsimp only at hSw); go_simp; try with_reducible rfl)
        try simp only [Act.put, List.setIfInBounds_toArray, List.set_cons_zero, List.set_cons_succ]
        refine wpAnyH_take (i := 3) (oi := { dst := some 17, op := Op.fieldAddr 114 (Operand.tmp 16) 0, type := 0, pos := "term.go:280", after := #[{ on := 2, ground := Ground.data }], guard := none }) (v := ?_) rfl (by kernel_rfl) (by kernel_rfl) (by kernel_rfl) (fun _ _ _ h => h) (Or.inl ⟨by rfl, ?_⟩) hHeld ?_
        rotate_left
        · (intro w' hSw; (try dsimp only at hSw); go_simp; try with_reducible rfl)
        try simp only [Act.put, List.setIfInBounds_toArray, List.set_cons_zero, List.set_cons_succ]
        refine wpAnyH_take (i := 4) (oi := { dst := some 18, op := Op.load 24 (Operand.tmp 17), type := 24, pos := "term.go:280", after := #[{ on := 3, ground := Ground.data }], guard := none }) (v := ?_) rfl (by kernel_rfl) (by kernel_rfl) (by kernel_rfl) (fun _ _ _ h => h) (Or.inl ⟨by rfl, ?_⟩) hHeld ?_
        rotate_left
        · (intro w' hSw; (try dsimp only at hSw); go_simp; try with_reducible rfl)
        try simp only [Act.put, List.setIfInBounds_toArray, List.set_cons_zero, List.set_cons_succ]
        refine wpAnyH_take (i := 5) (oi := { dst := some 19, op := Op.load 24 (Operand.tmp 4), type := 24, pos := "term.go:280", after := #[], guard := none }) (v := ?_) rfl (by kernel_rfl) (by kernel_rfl) (by kernel_rfl) (fun _ _ _ h => h) (Or.inl ⟨by rfl, ?_⟩) hHeld ?_
        rotate_left
        · (intro w' hSw; (try dsimp only at hSw); go_simp; try with_reducible rfl)
        try simp only [Act.put, List.setIfInBounds_toArray, List.set_cons_zero, List.set_cons_succ]
        refine wpAnyH_ready (rs := [6]) (by kernel_rfl) (by simp) ?_
        refine AllReadyH.cons (o := { dst := some 20, op := Op.call { callee := Callee.value (Operand.func 41), args := #[Operand.tmp 18, Operand.tmp 19], argTypes := #[24, 24] }, type := 4, pos := "term.go:280", after := #[{ on := 4, ground := Ground.data }, { on := 5, ground := Ground.data }], guard := none }) rfl (fun K hK => ?_) AllReadyH.nil
        have hHold := hHeld
        clear hHeld
        go_simp
        refine hs1.mono ?_
        clear hs1
        rintro e W2 ⟨rfl, hb2⟩
        have hbc := bcell hb2
        go_wp2_with fail
        refine hK.out _ _ ?_ (fun hHeld => ?_)
        · ((try dsimp only); go_keep)
        clear hK K hHold
        try simp only [Act.put, List.setIfInBounds_toArray, List.set_cons_zero, List.set_cons_succ]
        refine wpAnyH_take (i := 7) (oi := { dst := some 21, op := Op.move (Operand.tmp 20), type := 4, pos := "term.go:280", after := #[{ on := 6, ground := Ground.data }, { on := 6, ground := Ground.chain }], guard := none }) (v := ?_) rfl (by kernel_rfl) (by kernel_rfl) (by kernel_rfl) (fun _ _ _ h => h) (Or.inl ⟨by rfl, ?_⟩) hHeld ?_
        rotate_left
        · (intro w' hSw; (try dsimp only at hSw); go_simp; try with_reducible rfl)
        try simp only [Act.put, List.setIfInBounds_toArray, List.set_cons_zero, List.set_cons_succ]
        refine wpAnyH_take (i := 8) (oi := { dst := some 22, op := Op.move (Operand.tmp 0), type := 110, pos := "term.go:280", after := #[{ on := 7, ground := Ground.guard }], guard := some (7, true) }) (v := undef) rfl (by kernel_rfl) (by kernel_rfl) (by kernel_rfl) (fun _ _ _ h => h) (Or.inr ⟨by rfl, rfl⟩) hHeld ?_
        try simp only [Act.put, List.setIfInBounds_toArray, List.set_cons_zero, List.set_cons_succ]
        refine wpAnyH_take (i := 9) (oi := { dst := some 23, op := Op.move (Operand.tmp 7), type := 3, pos := "term.go:280", after := #[{ on := 7, ground := Ground.guard }], guard := some (7, true) }) (v := undef) rfl (by kernel_rfl) (by kernel_rfl) (by kernel_rfl) (fun _ _ _ h => h) (Or.inr ⟨by rfl, rfl⟩) hHeld ?_
        try simp only [Act.put, List.setIfInBounds_toArray, List.set_cons_zero, List.set_cons_succ]
        refine wpAnyH_take (i := 10) (oi := { dst := some 24, op := Op.indexAddr 110 (Operand.tmp 22) (Operand.tmp 23), type := 0, pos := "term.go:280", after := #[{ on := 8, ground := Ground.data }, { on := 9, ground := Ground.data }, { on := 7, ground := Ground.guard }], guard := some (7, true) }) (v := undef) rfl (by kernel_rfl) (by kernel_rfl) (by kernel_rfl) (fun _ _ _ h => h) (Or.inr ⟨by rfl, rfl⟩) hHeld ?_
        try simp only [Act.put, List.setIfInBounds_toArray, List.set_cons_zero, List.set_cons_succ]
        refine wpAnyH_take (i := 11) (oi := { dst := some 25, op := Op.fieldAddr 114 (Operand.tmp 24) 1, type := 0, pos := "term.go:280", after := #[{ on := 10, ground := Ground.data }, { on := 7, ground := Ground.guard }], guard := some (7, true) }) (v := undef) rfl (by kernel_rfl) (by kernel_rfl) (by kernel_rfl) (fun _ _ _ h => h) (Or.inr ⟨by rfl, rfl⟩) hHeld ?_
        try simp only [Act.put, List.setIfInBounds_toArray, List.set_cons_zero, List.set_cons_succ]
        refine wpAnyH_take (i := 12) (oi := { dst := some 26, op := Op.load 24 (Operand.tmp 25), type := 24, pos := "term.go:280", after := #[{ on := 11, ground := Ground.data }, { on := 7, ground := Ground.guard }], guard := some (7, true) }) (v := undef) rfl (by kernel_rfl) (by kernel_rfl) (by kernel_rfl) (fun _ _ _ h => h) (Or.inr ⟨by rfl, rfl⟩) hHeld ?_
        try simp only [Act.put, List.setIfInBounds_toArray, List.set_cons_zero, List.set_cons_succ]
        refine wpAnyH_take (i := 13) (oi := { dst := some 27, op := Op.load 24 (Operand.tmp 5), type := 24, pos := "term.go:280", after := #[{ on := 7, ground := Ground.guard }], guard := some (7, true) }) (v := undef) rfl (by kernel_rfl) (by kernel_rfl) (by kernel_rfl) (fun _ _ _ h => h) (Or.inr ⟨by rfl, rfl⟩) hHeld ?_
        try simp only [Act.put, List.setIfInBounds_toArray, List.set_cons_zero, List.set_cons_succ]
        refine wpAnyH_take (i := 14) (oi := { dst := some 28, op := Op.call { callee := Callee.value (Operand.func 41), args := #[Operand.tmp 26, Operand.tmp 27], argTypes := #[24, 24] }, type := 4, pos := "term.go:280", after := #[{ on := 12, ground := Ground.data }, { on := 13, ground := Ground.data }, { on := 7, ground := Ground.chain }, { on := 7, ground := Ground.guard }], guard := some (7, true) }) (v := undef) rfl (by kernel_rfl) (by kernel_rfl) (by kernel_rfl) (fun _ _ _ h => h) (Or.inr ⟨by rfl, rfl⟩) hHeld ?_
        try simp only [Act.put, List.setIfInBounds_toArray, List.set_cons_zero, List.set_cons_succ]
        refine wpAnyH_take (i := 15) (oi := { dst := some 29, op := Op.pick (Operand.tmp 21) (Operand.tmp 28) (Operand.const (Value.bool false)), type := 4, pos := "term.go:280", after := #[{ on := 7, ground := Ground.data }, { on := 14, ground := Ground.data }], guard := none }) (v := ?_) rfl (by kernel_rfl) (by kernel_rfl) (by kernel_rfl) (fun _ _ _ h => h) (Or.inl ⟨by rfl, ?_⟩) hHeld ?_
        rotate_left
        · (intro w' hSw; (try dsimp only at hSw); go_simp; try with_reducible rfl)
        try simp only [Act.put, List.setIfInBounds_toArray, List.set_cons_zero, List.set_cons_succ]
        refine wpAnyH_done (by kernel_rfl) ?_ _
        refine NoPanic.normal ?_
        clear hbc
        go_wp2_with fail
        go_roundw
        case rel => exact ⟨j + 1, by omega, by go_num, unhide HNN, hb.trans (hb2.mono hb.size)⟩
        case measure => simp [intOf]; omega
    · have hno : (code x, code y) ∉ cpP ps := fun h => by
        obtain ⟨i, hi⟩ := List.mem_iff_getElem?.1 h
        exact (unhide HS) i _ hi (by have := (List.getElem?_eq_some_iff.1 hi).1; simp [cpP] at this; omega) rfl
      have HNO := hide hno
      clear hno
      go_wp2_with fail
      go_ret
      exact ⟨by rw [nthI_no (unhide HNO)]; rfl, hbw⟩
end Go.Proofs.YtiigkiemkhdclaaGreatDoor

/- The contract of hornref.unlike: the pairs of parts that have nothing in common (prs). -/
namespace Go.Proofs.YtiigkiemkhdclaaGreatDoor
open Go.RowKit Go.Shelf Go.Maps

theorem boxT_on {W W' : World} {b : Nat} {x : TV} (h : BoxT W b x) (hb : Below W.heap.size W W') : BoxT W' b x := (hb.block _ h.lt).trans h
theorem zfU_take {α β : Type} {f : α → α → List β} : ∀ (a b : List α) (j : Nat) (u v : α), a[j]? = some u → b[j]? = some v → zf f (a.take (j + 1)) (b.take (j + 1)) = zf f (a.take j) (b.take j) ++ f u v
  | [], _, _, _, _, h, _ => by simp at h
  | _ :: _, [], _, _, _, _, h => by simp at h
  | x :: a, y :: b, 0, u, v, h, h' => by
    simp at h h'; subst h; subst h'
    simp [zf]
  | x :: a, y :: b, j + 1, u, v, h, h' => by
    simp only [List.take_succ_cons, zf]
    rw [zfU_take a b j u v (by simpa using h) (by simpa using h'), List.append_assoc]
theorem zfU_len {n : Nat} (hf : ∀ a b : Tm n, (prs a b).length ≤ (code a).length) : ∀ (a b : List (Tm n)), (zf prs a b).length ≤ (a.flatMap code).length
  | [], _ => by simp [zf]
  | _ :: _, [] => by simp [zf]
  | x :: a, y :: b => by
    simp only [zf, List.length_append, List.flatMap_cons]
    have := hf x y
    have := zfU_len hf a b
    omega
theorem prsU_len : ∀ {n : Nat} (a b : Tm n), (prs a b).length ≤ (code a).length := by
  intro n
  induction n with
  | zero => intro a; exact Empty.elim a
  | succ n ih =>
    intro a b
    have hc := code_kids a
    cases h : apart a.tv b.tv with
    | true => rw [prs_apart h, hc]; simp
    | false =>
      rw [prs_like h, hc]
      have := zfU_len ih a.kids b.kids
      simp only [List.length_cons]
      omega

/-- What unlike answers. -/
def UnSays (D n₀ : Nat) (w : World) (c : List Pr) (e : Ending) (W' : World) : Prop :=
  ∃ a len cap l, e = .returned (.slice a len cap) ∧ Below w.heap.size w W' ∧ MadeP D n₀ w.heap.size W' (.slice a len cap) l c

set_option maxRecDepth 100000 in
set_option maxHeartbeats 2000000 in
theorem unlike_comp {n₀ n : Nat} (ih : ∀ (x y : Tm n) (w : World), IsT n₀ w x → IsT n₀ w y → n₀ ≤ w.heap.size → okT x = true → okT y = true → (code x).length ≤ 4194304 → Calls Tryz.prog 80 #[x.tv.val, y.tv.val] w (UnSays n n₀ w (prs x y)))
    (s s' : ByteArray) (a a' : Option Addr) (len cap len' cap' : Nat) (N N' : Int) (kids kids' : List (Tm n)) (w : World) (hn : n₀ ≤ w.heap.size) (hs : s.toList = s'.toList) (hlq : len = len') (hlen : len = kids.length) (hlen' : len' = kids'.length) (hmax : len ≤ 50)
    (hkids : kids = [] ∨ ∃ b off, a = some ⟨b, off, none⟩ ∧ b < n₀ ∧ ∀ j u, kids[j]? = some u → cellsAt w b (off + j * 4) u.tv ∧ IsT n₀ w u)
    (hkids' : kids' = [] ∨ ∃ b off, a' = some ⟨b, off, none⟩ ∧ b < n₀ ∧ ∀ j u, kids'[j]? = some u → cellsAt w b (off + j * 4) u.tv ∧ IsT n₀ w u)
    (ok : ∀ u ∈ kids, okT u = true) (ok' : ∀ u ∈ kids', okT u = true) (hbig : (kids.flatMap code).length ≤ 4194304) :
    Calls Tryz.prog 80 #[.agg #[.int .i64 4, .int .i64 N, .string s, .slice a len cap], .agg #[.int .i64 4, .int .i64 N', .string s', .slice a' len' cap']] w (UnSays n n₀ w (zf prs kids kids')) := by
  have hs' : (s.toList == s'.toList) = true := by simp [hs]
  have hl' : ((len : Int) == (len' : Int)) = true := by simp; omega
  have hl1 : len ≤ kids.length := by omega
  have hl2 : kids.length ≤ len := by omega
  have hl3 : len ≤ kids'.length := by omega
  have hl4 : kids'.length ≤ len := by omega
  have hl5 : (len : Int) ≤ len' := by omega
  obtain ⟨W1, hW1, hB1, hba, hbb, hsz⟩ := two_new w ⟨4, N, s, a, len, cap⟩ ⟨4, N', s', a', len', cap'⟩
  simp only at hW1
  have b0 := hba.c0
  have b2 := hba.c2
  have b3 := hba.c3
  have d0 := hbb.c0
  have d2 := hbb.c2
  have d3 := hbb.c3
  simp only at b0 b2 b3 d0 d2 d3
  obtain ⟨i0, hi, hz0, hz1, hz2⟩ := info_parts Tryz.info_pair
  have HI := hide ih
  have HO := hide ok
  have HO' := hide ok'
  have HB1 := hide hB1
  have HSZ := hide hsz
  clear ih ok ok' hs hlen hlen' hlq hba hbb hB1 hsz
  go_enter Tryz.func80, Tryz.ntmps80
  go_wp2_with fail
  clear hW1 b0 b2 d0 d2
  go_loopw [5, 6] (fun av i wr => ∃ (j : Nat) (l : List (TV × TV)), j ≤ len ∧ i = .int .i64 j ∧ Below (w.heap.size + 2) W1 wr ∧ MadeP n n₀ (w.heap.size + 2) wr av l (zf prs (kids.take j) (kids'.take j))) (fun _ i _ => len - (intOf i).toNat)
  case atStart => exact ⟨0, [], Nat.zero_le _, rfl, Below.refl _ _, by simpa [zf] using MadeP.zero _ _ _ _⟩
  case round =>
    obtain ⟨j, l, hj, rfl, hb, hm⟩ := hrel
    have hsz := unhide HSZ
    have hbs := hb.size
    have hbw : Below w.heap.size w wr := (unhide HB1).trans (hb.mono (by omega))
    replace b3 := (hb.cell (p := ⟨w.heap.size, 3, none⟩) (by simp)).trans b3
    replace d3 := (hb.cell (p := ⟨w.heap.size + 1, 3, none⟩) (by simp)).trans d3
    have hll := hm.len
    have hcl := zfU_len prsU_len (kids.take j) (kids'.take j)
    have HM := hide hm
    obtain ⟨va, vc, rfl⟩ := hm.slice
    clear hm
    by_cases hlt : j < len
    · obtain ⟨u, bk, off, hu, rfl, ⟨c0, c1, c2, c3⟩, hT, hbk2⟩ := kid_below hkids (hbw.mono hn) hlt hl1
      obtain ⟨v, bk', off', hv, rfl, ⟨e0, e1, e2, e3⟩, hT', hbk2'⟩ := kid_below hkids' (hbw.mono hn) hlt hl3
      have hj1 : (j : Int) < len := by omega
      have hj2 : (j : Int) < len' := by omega
      have hdr : Below wr.heap.size wr wr.drew := (Below.refl _ wr).drew
      have hpre : ((kids.take j).flatMap code).length + (code u).length ≤ (kids.flatMap code).length := by
        have h1 : kids.flatMap code = (kids.take (j + 1)).flatMap code ++ (kids.drop (j + 1)).flatMap code := by rw [← List.flatMap_append, List.take_append_drop]
        rw [h1, code_take kids j u hu]
        simp only [List.length_append]
        omega
      have hpl := prsU_len u v
      have hzf := zfU_take (f := prs) kids kids' j u v hu hv
      have ihu := ((unhide HI) u v wr.drew (hT.below (hdr.mono (by omega))) (hT'.below (hdr.mono (by omega))) (show n₀ ≤ wr.heap.size by omega) ((unhide HO) u (List.mem_of_getElem? hu)) ((unhide HO') v (List.mem_of_getElem? hv)) (by omega)).mono
        (R' := fun e W5 => ∃ a5 l5 c5 lp, e = .returned (.slice a5 l5 c5) ∧ Below wr.heap.size wr W5 ∧ MadeP n n₀ wr.heap.size W5 (.slice a5 l5 c5) lp (prs u v)) (fun e W5 h => by
          obtain ⟨a5, l5, c5, lp, g1, g2, g3⟩ := h
          exact ⟨a5, l5, c5, lp, g1, hdr.trans g2, g3⟩)
      have hy0 : w.heap.size < wr.heap.size := by omega
      have hy1 : w.heap.size + 1 < wr.heap.size := by omega
      have hy2 : bk < wr.heap.size := by omega
      have hy3 : bk' < wr.heap.size := by omega
      have hx0 : w.heap.size < w.heap.size + 2 := by omega
      have hx1 : w.heap.size + 1 < w.heap.size + 2 := by omega
      have hx2 : bk < w.heap.size + 2 := by omega
      have hx3 : bk' < w.heap.size + 2 := by omega
      have HZF := hide hzf
      clear hkids hkids' hT hT' hu hv hzf hdr
      simp only [TV.val] at ihu
      go_wp2_with fail
      refine wp_region_noPanic ?_
      refine wp_region_held_drew (S := (fun w' => w'.cell? ⟨w.heap.size, 3, none⟩ = some (.slice (some ⟨bk, off, none⟩) len cap) ∧ w'.cell? ⟨w.heap.size + 1, 3, none⟩ = some (.slice (some ⟨bk', off', none⟩) len' cap') ∧ w'.cell? ⟨bk, off + j * 4, none⟩ = some (.int .i64 u.tv.k) ∧ w'.cell? ⟨bk, off + j * 4 + 1, none⟩ = some (.int .i64 u.tv.N) ∧ w'.cell? ⟨bk, off + j * 4 + 2, none⟩ = some (.string u.tv.s) ∧ w'.cell? ⟨bk, off + j * 4 + 3, none⟩ = some (.slice u.tv.a u.tv.len u.tv.cap) ∧ w'.cell? ⟨bk', off' + j * 4, none⟩ = some (.int .i64 v.tv.k) ∧ w'.cell? ⟨bk', off' + j * 4 + 1, none⟩ = some (.int .i64 v.tv.N) ∧ w'.cell? ⟨bk', off' + j * 4 + 2, none⟩ = some (.string v.tv.s) ∧ w'.cell? ⟨bk', off' + j * 4 + 3, none⟩ = some (.slice v.tv.a v.tv.len v.tv.cap))) (by kernel_rfl) ?_ (fun hHeld => ?_)
      · go_keep
      refine wpAnyH_take (i := 0) (oi := { dst := some 38, op := Op.move (Operand.tmp 5), type := 110, pos := "term.go:256", after := #[], guard := none }) (v := ?_) rfl (by kernel_rfl) (by kernel_rfl) (by kernel_rfl) (fun _ _ _ h => h) (Or.inl ⟨by rfl, ?_⟩) hHeld ?_
      rotate_left
      · (intro w' hSw; (try dsimp only at hSw); go_simp; try with_reducible rfl)
      try simp only [Act.put, List.setIfInBounds_toArray, List.set_cons_zero, List.set_cons_succ]
      refine wpAnyH_take (i := 1) (oi := { dst := some 39, op := Op.fieldAddr 24 (Operand.tmp 2) 3, type := 0, pos := "term.go:256", after := #[], guard := none }) (v := ?_) rfl (by kernel_rfl) (by kernel_rfl) (by kernel_rfl) (fun _ _ _ h => h) (Or.inl ⟨by rfl, ?_⟩) hHeld ?_
      rotate_left
      · (intro w' hSw; (try dsimp only at hSw); go_simp; try with_reducible rfl)
      try simp only [Act.put, List.setIfInBounds_toArray, List.set_cons_zero, List.set_cons_succ]
      refine wpAnyH_take (i := 2) (oi := { dst := some 40, op := Op.load 22 (Operand.tmp 39), type := 22, pos := "term.go:256", after := #[{ on := 1, ground := Ground.data }], guard := none }) (v := ?_) rfl (by kernel_rfl) (by kernel_rfl) (by kernel_rfl) (fun _ _ _ h => h) (Or.inl ⟨by rfl, ?_⟩) hHeld ?_
      rotate_left
      · (intro w' hSw; (try dsimp only at hSw); go_simp; try with_reducible rfl)
      try simp only [Act.put, List.setIfInBounds_toArray, List.set_cons_zero, List.set_cons_succ]
      refine wpAnyH_take (i := 3) (oi := { dst := some 41, op := Op.move (Operand.tmp 6), type := 3, pos := "term.go:256", after := #[], guard := none }) (v := ?_) rfl (by kernel_rfl) (by kernel_rfl) (by kernel_rfl) (fun _ _ _ h => h) (Or.inl ⟨by rfl, ?_⟩) hHeld ?_
      rotate_left
      · (intro w' hSw; (try dsimp only at hSw); go_simp; try with_reducible rfl)
      try simp only [Act.put, List.setIfInBounds_toArray, List.set_cons_zero, List.set_cons_succ]
      refine wpAnyH_take (i := 4) (oi := { dst := some 42, op := Op.indexAddr 22 (Operand.tmp 40) (Operand.tmp 41), type := 0, pos := "term.go:256", after := #[{ on := 2, ground := Ground.data }, { on := 3, ground := Ground.data }], guard := none }) (v := ?_) rfl (by kernel_rfl) (by kernel_rfl) (by kernel_rfl) (fun _ _ _ h => h) (Or.inl ⟨by rfl, ?_⟩) hHeld ?_
      rotate_left
      · (intro w' hSw; (try dsimp only at hSw); go_simp; try with_reducible rfl)
      try simp only [Act.put, List.setIfInBounds_toArray, List.set_cons_zero, List.set_cons_succ]
      refine wpAnyH_take (i := 5) (oi := { dst := some 43, op := Op.load 24 (Operand.tmp 42), type := 24, pos := "term.go:256", after := #[{ on := 4, ground := Ground.data }], guard := none }) (v := ?_) rfl (by kernel_rfl) (by kernel_rfl) (by kernel_rfl) (fun _ _ _ h => h) (Or.inl ⟨by rfl, ?_⟩) hHeld ?_
      rotate_left
      · (intro w' hSw; (try dsimp only at hSw); go_simp; try with_reducible rfl)
      try simp only [Act.put, List.setIfInBounds_toArray, List.set_cons_zero, List.set_cons_succ]
      refine wpAnyH_take (i := 6) (oi := { dst := some 44, op := Op.fieldAddr 24 (Operand.tmp 3) 3, type := 0, pos := "term.go:256", after := #[], guard := none }) (v := ?_) rfl (by kernel_rfl) (by kernel_rfl) (by kernel_rfl) (fun _ _ _ h => h) (Or.inl ⟨by rfl, ?_⟩) hHeld ?_
      rotate_left
      · (intro w' hSw; (try dsimp only at hSw); go_simp; try with_reducible rfl)
      try simp only [Act.put, List.setIfInBounds_toArray, List.set_cons_zero, List.set_cons_succ]
      refine wpAnyH_take (i := 7) (oi := { dst := some 45, op := Op.load 22 (Operand.tmp 44), type := 22, pos := "term.go:256", after := #[{ on := 6, ground := Ground.data }], guard := none }) (v := ?_) rfl (by kernel_rfl) (by kernel_rfl) (by kernel_rfl) (fun _ _ _ h => h) (Or.inl ⟨by rfl, ?_⟩) hHeld ?_
      rotate_left
      · (intro w' hSw; (try dsimp only at hSw); go_simp; try with_reducible rfl)
      try simp only [Act.put, List.setIfInBounds_toArray, List.set_cons_zero, List.set_cons_succ]
      refine wpAnyH_take (i := 8) (oi := { dst := some 46, op := Op.move (Operand.tmp 6), type := 3, pos := "term.go:256", after := #[], guard := none }) (v := ?_) rfl (by kernel_rfl) (by kernel_rfl) (by kernel_rfl) (fun _ _ _ h => h) (Or.inl ⟨by rfl, ?_⟩) hHeld ?_
      rotate_left
      · (intro w' hSw; (try dsimp only at hSw); go_simp; try with_reducible rfl)
      try simp only [Act.put, List.setIfInBounds_toArray, List.set_cons_zero, List.set_cons_succ]
      refine wpAnyH_take (i := 9) (oi := { dst := some 47, op := Op.indexAddr 22 (Operand.tmp 45) (Operand.tmp 46), type := 0, pos := "term.go:256", after := #[{ on := 7, ground := Ground.data }, { on := 8, ground := Ground.data }], guard := none }) (v := ?_) rfl (by kernel_rfl) (by kernel_rfl) (by kernel_rfl) (fun _ _ _ h => h) (Or.inl ⟨by rfl, ?_⟩) hHeld ?_
      rotate_left
      · (intro w' hSw; (try dsimp only at hSw); go_simp; try with_reducible rfl)
      try simp only [Act.put, List.setIfInBounds_toArray, List.set_cons_zero, List.set_cons_succ]
      refine wpAnyH_take (i := 10) (oi := { dst := some 48, op := Op.load 24 (Operand.tmp 47), type := 24, pos := "term.go:256", after := #[{ on := 9, ground := Ground.data }], guard := none }) (v := ?_) rfl (by kernel_rfl) (by kernel_rfl) (by kernel_rfl) (fun _ _ _ h => h) (Or.inl ⟨by rfl, ?_⟩) hHeld ?_
      rotate_left
      · (intro w' hSw; (try dsimp only at hSw); go_simp; try with_reducible rfl)
      try simp only [Act.put, List.setIfInBounds_toArray, List.set_cons_zero, List.set_cons_succ]
      refine wpAnyH_ready (rs := [11]) (by kernel_rfl) (by simp) ?_
      refine AllReadyH.cons (o := { dst := some 49, op := Op.call { callee := Callee.value (Operand.func 80), args := #[Operand.tmp 43, Operand.tmp 48], argTypes := #[24, 24] }, type := 110, pos := "term.go:256", after := #[{ on := 5, ground := Ground.data }, { on := 10, ground := Ground.data }], guard := none }) rfl (fun K hK => ?_) AllReadyH.nil
      have hHold := hHeld
      clear hHeld
      go_simp
      refine ihu.mono ?_
      clear ihu
      rintro e W5 ⟨a5, l5, c5, lp, rfl, hb5, hm5⟩
      have hbc := bcell hb5
      go_wp2_with fail
      refine hK.out _ _ ?_ (fun hHeld => ?_)
      · ((try dsimp only); go_keep)
      clear hK K hHold
      try simp only [Act.put, List.setIfInBounds_toArray, List.set_cons_zero, List.set_cons_succ]
      refine wpAnyH_ready (rs := [12]) (by kernel_rfl) (by simp) ?_
      refine AllReadyH.cons (o := { dst := some 50, op := Op.call { callee := Callee.builtin Builtin.append, args := #[Operand.tmp 38, Operand.tmp 49], argTypes := #[110, 110] }, type := 110, pos := "term.go:256", after := #[{ on := 0, ground := Ground.data }, { on := 11, ground := Ground.data }, { on := 11, ground := Ground.chain }], guard := none }) rfl (fun K hK => ?_) AllReadyH.nil
      have hHold := hHeld
      clear hHeld
      have hs5 := hb5.size
      have hm5l := hm5.len
      obtain ⟨u6, w6, hr6, hm6, hg6⟩ := ((unhide HM).below hb5 (by omega)).append hm5 110 (by omega) (by omega) (by omega)
      have hb6 : Below (w.heap.size + 2) W5 w6 := (Below.refl _ W5).grown hg6 (by omega) (fun g hg => (owns_lt (unhide HM).owns hg).1)
      have hbd : ∀ b o, b < w.heap.size + 2 → w6.cell? ⟨b, o, none⟩ = W5.cell? ⟨b, o, none⟩ := fun b o h => hb6.cell (p := ⟨b, o, none⟩) h
      obtain ⟨va6, vc6, rfl⟩ := hm6.slice
      rw [if_pos (by rfl)]
      refine wp_append_row _ _ _ rfl rfl rfl hr6 ?_
      refine hK.out _ _ ?_ (fun hHeld => ?_)
      · ((try dsimp only); go_keep)
      clear hK K hHold
      try simp only [Act.put, List.setIfInBounds_toArray, List.set_cons_zero, List.set_cons_succ]
      refine wpAnyH_take (i := 13) (oi := { dst := some 5, op := Op.assign (Operand.tmp 50), type := 110, pos := "term.go:256", after := #[{ on := 12, ground := Ground.data }, { on := 12, ground := Ground.chain }, { on := 0, ground := Ground.phase }, { on := 1, ground := Ground.phase }, { on := 2, ground := Ground.phase }, { on := 3, ground := Ground.phase }, { on := 4, ground := Ground.phase }, { on := 5, ground := Ground.phase }, { on := 6, ground := Ground.phase }, { on := 7, ground := Ground.phase }, { on := 8, ground := Ground.phase }, { on := 9, ground := Ground.phase }, { on := 10, ground := Ground.phase }, { on := 11, ground := Ground.phase }, { on := 12, ground := Ground.phase }], guard := none }) (v := ?_) rfl (by kernel_rfl) (by kernel_rfl) (by kernel_rfl) (fun _ _ _ h => h) (Or.inl ⟨by rfl, ?_⟩) hHeld ?_
      rotate_left
      · (intro w' hSw; (try dsimp only at hSw); go_simp; try with_reducible rfl)
      try simp only [Act.put, List.setIfInBounds_toArray, List.set_cons_zero, List.set_cons_succ]
      refine wpAnyH_done (by kernel_rfl) ?_ _
      refine NoPanic.normal ?_
      clear hbc hbd
      have hmf : MadeP n n₀ (w.heap.size + 2) w6 (.slice va6 (l ++ lp).length vc6) (l ++ lp) (zf prs (kids.take (j + 1)) (kids'.take (j + 1))) := by rw [unhide HZF]; exact hm6
      have hbf : Below (w.heap.size + 2) W1 w6 := (hb.trans (hb5.mono (by omega))).trans hb6
      have HMF := hide hmf
      clear hmf hm6 hm5 hg6 hr6 hb6
      go_wp2_with fail
      exact ⟨⟨j + 1, l ++ lp, by omega, by go_num, hbf, by have h := unhide HMF; rw [List.length_append] at h; exact h⟩, by simp [intOf]; omega⟩
    · have ht : kids.take j = kids := List.take_of_length_le (by omega)
      have ht' : kids'.take j = kids' := List.take_of_length_le (by omega)
      have hm := unhide HM
      rw [ht, ht'] at hm
      have hfin : MadeP n n₀ w.heap.size wr (.slice va l.length vc) l (zf prs kids kids') := by
        refine ⟨?_, hm.kids⟩
        obtain ⟨q1, q2⟩ := hm.owns
        refine ⟨q1, ?_⟩
        rcases q2 with q2 | ⟨g, cp, cur, e1, e2, e3⟩
        · exact .inl q2
        · exact .inr ⟨g, cp, cur, e1, by omega, e3⟩
      have HF := hide hfin
      clear ht ht' hm hfin hkids hkids'
      go_wp2_with fail
      exact bodyPost_ret (v := .slice va l.length vc) (by simp [results, Tryz.results80, go_sem]) rfl ⟨va, l.length, vc, l, rfl, hbw, unhide HF⟩

theorem MadeP.more {D D' n₀ base : Nat} {W : World} {v : Value} {l : List (TV × TV)} {c : List Pr} (h : MadeP D n₀ base W v l c) (hD : D ≤ D') : MadeP D' n₀ base W v l c := ⟨h.owns, fun M hM => h.kids M (by omega)⟩
theorem lift_to {n₀ : Nat} {W : World} {n : Nat} {t : Tm n} (hT : IsT n₀ W t) : ∀ M, n ≤ M → ∃ t' : Tm M, t'.tv = t.tv ∧ IsT n₀ W t' ∧ code t' = code t := fun M hM => by
  obtain ⟨k, rfl⟩ : ∃ k, M = n + k := ⟨M - n, by omega⟩
  clear hM
  induction k with
  | zero => exact ⟨t, rfl, hT, rfl⟩
  | succ k ih =>
    obtain ⟨t', h1, h2, h3⟩ := ih
    exact ⟨t'.lift, by rw [lift_tv]; exact h1, lift_isT h2, by rw [lift_code]; exact h3⟩
/-- One pair, in new memory. -/
theorem one_pair {n₀ n : Nat} {x y : Tm n} {w W : World} (hb : Below w.heap.size w W) (hx : IsT n₀ w x) (hy : IsT n₀ w y) (hn : n₀ ≤ w.heap.size) :
    UnSays n n₀ w [(code x, code y)] (.returned (.slice (some ⟨W.heap.size, 0, none⟩) 1 1)) (W.alloc (.cells #[.int .i64 x.tv.k, .int .i64 x.tv.N, .string x.tv.s, .slice x.tv.a x.tv.len x.tv.cap, .int .i64 y.tv.k, .int .i64 y.tv.N, .string y.tv.s, .slice y.tv.a y.tv.len y.tv.cap] 114)) := by
  have hB := hb.alloc hb.size (.cells #[.int .i64 x.tv.k, .int .i64 x.tv.N, .string x.tv.s, .slice x.tv.a x.tv.len x.tv.cap, .int .i64 y.tv.k, .int .i64 y.tv.N, .string y.tv.s, .slice y.tv.a y.tv.len y.tv.cap] 114)
  refine ⟨_, _, _, [(x.tv, y.tv)], rfl, hB, ⟨⟨by simp [pRow, TV.row], .inr ⟨W.heap.size, 1, _, rfl, hb.size, World.alloc_heap_new W _, by simp, by decide, rfl, by simp [pRow, TV.row]⟩⟩, fun M hM => ?_⟩⟩
  obtain ⟨x', a1, a2, a3⟩ := lift_to hx M hM
  obtain ⟨y', b1, b2, b3⟩ := lift_to hy M hM
  exact ⟨[(x', y')], by simp [a1, b1], fun p hp => by simp at hp; subst hp; exact ⟨a2.below (hB.mono hn), b2.below (hB.mono hn)⟩, by simp [cpP, a3, b3]⟩

set_option maxRecDepth 100000 in
set_option maxHeartbeats 2000000 in
theorem unlike_any {n₀ : Nat} : ∀ (n : Nat) (x y : Tm n) (w : World), IsT n₀ w x → IsT n₀ w y → n₀ ≤ w.heap.size → okT x = true → okT y = true → (code x).length ≤ 4194304 → Calls Tryz.prog 80 #[x.tv.val, y.tv.val] w (UnSays n n₀ w (prs x y)) := by
  intro n
  induction n with
  | zero => intro x; exact Empty.elim x
  | succ n ih =>
    intro x y w hx hy hn ox oy hbig
    have hcx := code_kids x
    have hlx : (x.kids.flatMap code).length ≤ 4194304 := by rw [hcx] at hbig; simp only [List.length_cons] at hbig; omega
    have hpa := @prs_apart n x y
    have hpl := @prs_like n x y
    have hst := sameT_code (hx.wl) (hy.wl)
    obtain ⟨R, hR⟩ : ∃ R, prs x y = R := ⟨_, rfl⟩
    rw [hR] at hpa hpl ⊢
    clear hR hcx hbig
    have hB2 := fun (W : World) (hb : Below w.heap.size w W) => same_any (n + 1) x y W ((hx.mono hn |>.below hb).mono hb.size) ((hy.mono hn |>.below hb).mono hb.size)
    have HX := hide hx
    have HY := hide hy
    obtain ⟨⟨k, N, s, a, len, cap⟩, kids⟩ := x
    obtain ⟨⟨k', N', s', a', len', cap'⟩, kids'⟩ := y
    obtain ⟨hlen, hmax, hsm0, hkids⟩ := hx
    obtain ⟨hlen', hmax', hsm0', hkids'⟩ := hy
    obtain ⟨wx, okx⟩ := ok_kids ox
    obtain ⟨wy, oky⟩ := ok_kids oy
    simp only [Tm.tv, Tm.kids] at hlen hmax hkids hlen' hmax' hkids' wx wy hpa hpl hlx
    by_cases hall : k = 4 ∧ k' = 4 ∧ s.toList = s'.toList ∧ len = len'
    · obtain ⟨rfl, rfl, hs, hl⟩ := hall
      have hN0 : N = 0 ∧ len ≤ 50 := by simp [wmB] at wx; omega
      have hN0' : N' = 0 := by simp [wmB] at wy; omega
      have hap : apart (⟨4, N, s, a, len, cap⟩ : TV) ⟨4, N', s', a', len', cap'⟩ = false := by simp [apart, stop, hs, hl, hN0.1, hN0']
      rw [hpl hap]
      refine (unlike_comp ih s s' a a' len cap len' cap' N N' kids kids' w hn hs hl hlen hlen' hN0.2 hkids hkids' okx oky hlx).mono fun e W' h => ?_
      obtain ⟨a1, l1, c1, lp, g1, g2, g3⟩ := h
      exact ⟨a1, l1, c1, lp, g1, g2, g3.more (by omega)⟩
    · have hsamef : sameT (n := n + 1) ((⟨k, N, s, a, len, cap⟩, kids) : TV × List (Tm n)) ((⟨k', N', s', a', len', cap'⟩, kids') : TV × List (Tm n)) = false → k = k' → s.toList = s'.toList → len = len' → N = N' → k ≠ 4 → False := fun h e1 e2 e3 e4 e5 => by
        have h0 : len = 0 := by
          rcases wm_cases wx with ⟨_, _, _, _, h⟩ | ⟨_, h⟩ | ⟨h, _⟩
          · exact h
          · exact h
          · exact (e5 h).elim
        have k1 : kids = [] := List.length_eq_zero_iff.1 (by omega)
        have k2 : kids' = [] := List.length_eq_zero_iff.1 (by omega)
        simp [sameT, Tm.tv, Tm.kids, stop, e1, e2, e3, e4, k1, k2, all2] at h
      obtain ⟨W1, hW1, hB1, hba, hbb, hsz⟩ := two_new w ⟨k, N, s, a, len, cap⟩ ⟨k', N', s', a', len', cap'⟩
      have hsm := hB2 W1 hB1
      simp only at hW1
      have b0 := hba.c0
      have b1 := hba.c1
      have b2 := hba.c2
      have b3 := hba.c3
      have d0 := hbb.c0
      have d1 := hbb.c1
      have d2 := hbb.c2
      have d3 := hbb.c3
      simp only at b0 b1 b2 b3 d0 d1 d2 d3
      have hy0 : w.heap.size < W1.heap.size := hba.lt
      have hy1 : w.heap.size + 1 < W1.heap.size := hbb.lt
      have HB1 := hide hB1
      have HBA := hide hba
      have HBB := hide hbb
      simp only [TV.val, Tm.tv] at hsm ⊢
      by_cases hk4 : k = 4
      · have hd : sameT (n := n + 1) ((⟨k, N, s, a, len, cap⟩, kids) : TV × List (Tm n)) ((⟨k', N', s', a', len', cap'⟩, kids') : TV × List (Tm n)) = false := by
          cases h : sameT (n := n + 1) ((⟨k, N, s, a, len, cap⟩, kids) : TV × List (Tm n)) ((⟨k', N', s', a', len', cap'⟩, kids') : TV × List (Tm n)) with
          | false => rfl
          | true =>
            simp only [sameT, Tm.tv, Tm.kids, Bool.and_eq_true] at h
            have h1 := h.1
            simp [stop] at h1
            exact (hall ⟨hk4, h1.1 ▸ hk4, h1.2.2.1, h1.2.2.2⟩).elim
        rw [hd] at hsm
        have hap : apart (⟨k, N, s, a, len, cap⟩ : TV) ⟨k', N', s', a', len', cap'⟩ = true := by
          have : stop (⟨k, N, s, a, len, cap⟩ : TV) ⟨k', N', s', a', len', cap'⟩ = false := by
            cases h : stop (⟨k, N, s, a, len, cap⟩ : TV) ⟨k', N', s', a', len', cap'⟩ with
            | false => rfl
            | true =>
              simp [stop] at h
              exact (hall ⟨hk4, h.1 ▸ hk4, h.2.2.1, h.2.2.2⟩).elim
          simp [apart, this]
        rw [hpa hap]
        subst hk4
        by_cases hk4' : k' = 4
        · subst hk4'
          by_cases hs : s.toList = s'.toList
          · have hs' : (s.toList == s'.toList) = true := by simp [hs]
            have hl' : ((len : Int) == (len' : Int)) = false := by simp; exact fun e => hall ⟨rfl, rfl, hs, by omega⟩
            clear hkids hkids' wx wy ox oy okx oky hlen hlen' hpa hpl hst hsamef hap hd hB2 ih hall hs hba hbb hB1 hsz
            go_enter Tryz.func80, Tryz.ntmps80
            go_wp2_with fail
            refine hsm.mono ?_
            clear hsm
            rintro e W3 ⟨rfl, hb3⟩
            have hB3 : Below w.heap.size w W3 := (unhide HB1).trans (hb3.mono (unhide HB1).size)
            have hba3 := boxT_on (unhide HBA) hb3
            have hbb3 := boxT_on (unhide HBB) hb3
            have p0 := hba3.c0
            have p1 := hba3.c1
            have p2 := hba3.c2
            have p3 := hba3.c3
            have q0 := hbb3.c0
            have q1 := hbb3.c1
            have q2 := hbb3.c2
            have q3 := hbb3.c3
            simp only at p0 p1 p2 p3 q0 q1 q2 q3
            clear hba3 hbb3 hb3 hW1
            go_wp2_with fail
            exact bodyPost_ret (v := .slice (some ⟨W3.heap.size, 0, none⟩) 1 1) (by simp [results, Tryz.results80, go_sem]) rfl (one_pair hB3 (unhide HX) (unhide HY) hn)
          · have hs' : (s.toList == s'.toList) = false := by simp [hs]
            clear hkids hkids' wx wy ox oy okx oky hlen hlen' hpa hpl hst hsamef hap hd hB2 ih hall hs hba hbb hB1 hsz
            go_enter Tryz.func80, Tryz.ntmps80
            go_wp2_with fail
            refine hsm.mono ?_
            clear hsm
            rintro e W3 ⟨rfl, hb3⟩
            have hB3 : Below w.heap.size w W3 := (unhide HB1).trans (hb3.mono (unhide HB1).size)
            have hba3 := boxT_on (unhide HBA) hb3
            have hbb3 := boxT_on (unhide HBB) hb3
            have p0 := hba3.c0
            have p1 := hba3.c1
            have p2 := hba3.c2
            have p3 := hba3.c3
            have q0 := hbb3.c0
            have q1 := hbb3.c1
            have q2 := hbb3.c2
            have q3 := hbb3.c3
            simp only at p0 p1 p2 p3 q0 q1 q2 q3
            clear hba3 hbb3 hb3 hW1
            go_wp2_with fail
            exact bodyPost_ret (v := .slice (some ⟨W3.heap.size, 0, none⟩) 1 1) (by simp [results, Tryz.results80, go_sem]) rfl (one_pair hB3 (unhide HX) (unhide HY) hn)
        · have hk4b : (k' == 4) = false := by simp [hk4']
          clear hkids hkids' wx wy ox oy okx oky hlen hlen' hpa hpl hst hsamef hap hd hB2 ih hall hk4' hba hbb hB1 hsz
          go_enter Tryz.func80, Tryz.ntmps80
          go_wp2_with fail
          refine hsm.mono ?_
          clear hsm
          rintro e W3 ⟨rfl, hb3⟩
          have hB3 : Below w.heap.size w W3 := (unhide HB1).trans (hb3.mono (unhide HB1).size)
          have hba3 := boxT_on (unhide HBA) hb3
          have hbb3 := boxT_on (unhide HBB) hb3
          have p0 := hba3.c0
          have p1 := hba3.c1
          have p2 := hba3.c2
          have p3 := hba3.c3
          have q0 := hbb3.c0
          have q1 := hbb3.c1
          have q2 := hbb3.c2
          have q3 := hbb3.c3
          simp only at p0 p1 p2 p3 q0 q1 q2 q3
          clear hba3 hbb3 hb3 hW1
          go_wp2_with fail
          exact bodyPost_ret (v := .slice (some ⟨W3.heap.size, 0, none⟩) 1 1) (by simp [results, Tryz.results80, go_sem]) rfl (one_pair hB3 (unhide HX) (unhide HY) hn)
      · have hk4b : (k == 4) = false := by simp [hk4]
        by_cases hk1 : k = 1
        · have hap : apart (⟨k, N, s, a, len, cap⟩ : TV) ⟨k', N', s', a', len', cap'⟩ = true := by simp [apart, hk1]
          rw [hpa hap]
          have hk1b : (k != 1) = false := by simp [hk1]
          clear hkids hkids' wx wy ox oy okx oky hlen hlen' hpa hpl hst hsamef hap hB2 ih hall hk4 hk1 hba hbb hB1 hsz hsm
          go_enter Tryz.func80, Tryz.ntmps80
          go_wp2_with fail
          exact bodyPost_ret (v := .slice (some ⟨W1.heap.size, 0, none⟩) 1 1) (by simp [results, Tryz.results80, go_sem]) rfl (one_pair (unhide HB1) (unhide HX) (unhide HY) hn)
        · have hk1b : (k != 1) = true := by simp [hk1]
          cases hd : sameT (n := n + 1) ((⟨k, N, s, a, len, cap⟩, kids) : TV × List (Tm n)) ((⟨k', N', s', a', len', cap'⟩, kids') : TV × List (Tm n)) with
          | true =>
            rw [hd] at hsm
            have hstp : stop (⟨k, N, s, a, len, cap⟩ : TV) ⟨k', N', s', a', len', cap'⟩ = true := by
              simp only [sameT, Tm.tv, Tm.kids, Bool.and_eq_true] at hd
              exact hd.1
            have hap : apart (⟨k, N, s, a, len, cap⟩ : TV) ⟨k', N', s', a', len', cap'⟩ = false := by simp [apart, hk1, hstp]
            have h0 : len = 0 := by
              rcases wm_cases wx with ⟨h, _⟩ | ⟨_, h⟩ | ⟨h, _⟩
              · exact (hk1 h).elim
              · exact h
              · exact (hk4 h).elim
            have k1 : kids = [] := List.length_eq_zero_iff.1 (by omega)
            have hR0 : R = [] := by rw [hpl hap, k1]; simp [zf]
            subst hR0
            clear hkids hkids' wx wy ox oy okx oky hlen hlen' hpa hpl hst hsamef hap hd hstp h0 k1 hB2 ih hall hk4 hk1 hba hbb hB1 hsz
            go_enter Tryz.func80, Tryz.ntmps80
            go_wp2_with fail
            refine hsm.mono ?_
            clear hsm
            rintro e W3 ⟨rfl, hb3⟩
            have hB3 : Below w.heap.size w W3 := (unhide HB1).trans (hb3.mono (unhide HB1).size)
            have hba3 := boxT_on (unhide HBA) hb3
            have hbb3 := boxT_on (unhide HBB) hb3
            have p0 := hba3.c0
            have p1 := hba3.c1
            have p2 := hba3.c2
            have p3 := hba3.c3
            have q0 := hbb3.c0
            have q1 := hbb3.c1
            have q2 := hbb3.c2
            have q3 := hbb3.c3
            simp only at p0 p1 p2 p3 q0 q1 q2 q3
            clear hba3 hbb3 hb3 hW1
            go_wp2_with fail
            exact bodyPost_ret (v := .slice none 0 0) (by simp [results, Tryz.results80, go_sem]) rfl ⟨none, 0, 0, [], rfl, hB3, MadeP.zero _ _ _ _⟩
          | false =>
            rw [hd] at hsm
            have hap : apart (⟨k, N, s, a, len, cap⟩ : TV) ⟨k', N', s', a', len', cap'⟩ = true := by
              have : stop (⟨k, N, s, a, len, cap⟩ : TV) ⟨k', N', s', a', len', cap'⟩ = false := by
                cases h : stop (⟨k, N, s, a, len, cap⟩ : TV) ⟨k', N', s', a', len', cap'⟩ with
                | false => rfl
                | true =>
                  simp [stop] at h
                  exact (hsamef hd h.1 h.2.2.1 h.2.2.2 h.2.1 hk4).elim
              simp [apart, this]
            rw [hpa hap]
            clear hkids hkids' wx wy ox oy okx oky hlen hlen' hpa hpl hst hsamef hap hd hB2 ih hall hk4 hk1 hba hbb hB1 hsz
            go_enter Tryz.func80, Tryz.ntmps80
            go_wp2_with fail
            refine hsm.mono ?_
            clear hsm
            rintro e W3 ⟨rfl, hb3⟩
            have hB3 : Below w.heap.size w W3 := (unhide HB1).trans (hb3.mono (unhide HB1).size)
            have hba3 := boxT_on (unhide HBA) hb3
            have hbb3 := boxT_on (unhide HBB) hb3
            have p0 := hba3.c0
            have p1 := hba3.c1
            have p2 := hba3.c2
            have p3 := hba3.c3
            have q0 := hbb3.c0
            have q1 := hbb3.c1
            have q2 := hbb3.c2
            have q3 := hbb3.c3
            simp only at p0 p1 p2 p3 q0 q1 q2 q3
            clear hba3 hbb3 hb3 hW1
            go_wp2_with fail
            exact bodyPost_ret (v := .slice (some ⟨W3.heap.size, 0, none⟩) 1 1) (by simp [results, Tryz.results80, go_sem]) rfl (one_pair hB3 (unhide HX) (unhide HY) hn)
end Go.Proofs.YtiigkiemkhdclaaGreatDoor

