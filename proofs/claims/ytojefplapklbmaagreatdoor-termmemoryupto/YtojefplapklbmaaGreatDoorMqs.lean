import Derived.Test.YtojefplapklbmaaGreatDoorGes
import Derived.Test.YtojefplapklbmaaGreatDoorVrs
import Derived.Laws.AppendOwnNone
import Derived.Test.YtojefplapklbmaaGreatDoorG
/- Rows of pairs of terms: in memory (IsP), and made by a call (MadeP). -/
namespace Go.Proofs.YtojefplapklbmaaGreatDoor
open Go.RowKit Go.Shelf Go.Maps

def pRow (p : TV × TV) : List Value := p.1.row ++ p.2.row
def cpP {n : Nat} (ps : List (Tm n × Tm n)) : List Pr := ps.map fun p => (code p.1, code p.2)
theorem pRow_at : ∀ (l : List (TV × TV)) (j : Nat) (p : TV × TV), l[j]? = some p → ∀ (q : Nat) u, (pRow p)[q]? = some u → (l.flatMap pRow)[j * 8 + q]? = some u
  | [], j, p, h => by simp at h
  | y :: l, 0, p, h => by
    simp at h; subst h
    intro q u hq
    rw [List.flatMap_cons, Nat.zero_mul, Nat.zero_add, List.getElem?_append_left (List.getElem?_eq_some_iff.1 hq).1]
    exact hq
  | y :: l, j + 1, p, h => by
    intro q u hq
    have ih := pRow_at l j p (by simpa using h) q u hq
    rw [List.flatMap_cons, List.getElem?_append_right (by simp [pRow, TV.row]; omega)]
    have : (j + 1) * 8 + q - (pRow y).length = j * 8 + q := by simp [pRow, TV.row]; omega
    rw [this]
    exact ih
theorem pRow_one : ∀ (l : List (TV × TV)), ∀ u ∈ l.flatMap pRow, u.oneCell' = true := by
  intro l u hu
  obtain ⟨p, _, hp⟩ := List.mem_flatMap.1 hu
  rcases List.mem_append.1 hp with h | h
  · exact row_one u h
  · exact row_one u h
theorem pRow_len (l : List (TV × TV)) : (l.flatMap pRow).length = l.length * 8 := by
  induction l with
  | nil => rfl
  | cons x l ih => rw [List.flatMap_cons, List.length_append, ih]; simp [pRow, TV.row]; omega

/-- Pairs of terms in memory. -/
def IsP (n₀ : Nat) (W : World) {n : Nat} (a : Option Addr) (len : Nat) (ps : List (Tm n × Tm n)) : Prop :=
  len = ps.length ∧ len ≤ 1152921504606846976 ∧ (ps = [] ∨ ∃ b off, a = some ⟨b, off, none⟩ ∧ b < n₀ ∧ ∀ (j : Nat) p, ps[j]? = some p → cellsAt W b (off + j * 8) p.1.tv ∧ cellsAt W b (off + j * 8 + 4) p.2.tv ∧ IsT n₀ W p.1 ∧ IsT n₀ W p.2)
theorem IsP.below {n₀ : Nat} {A B : World} (h : Below n₀ A B) {n : Nat} {a : Option Addr} {len : Nat} {ps : List (Tm n × Tm n)} (hl : IsP n₀ A a len ps) : IsP n₀ B a len ps := by
  obtain ⟨h1, h2, h3⟩ := hl
  refine ⟨h1, h2, ?_⟩
  rcases h3 with h3 | ⟨b, off, ha, hb, hk⟩
  · exact .inl h3
  · refine .inr ⟨b, off, ha, hb, fun j p hp => ?_⟩
    obtain ⟨k1, k2, k3, k4⟩ := hk j p hp
    exact ⟨k1.kept (h.block b hb), k2.kept (h.block b hb), k3.below h, k4.below h⟩
theorem IsP.mono {n₀ n₁ : Nat} (hle : n₀ ≤ n₁) {A : World} {n : Nat} {a : Option Addr} {len : Nat} {ps : List (Tm n × Tm n)} (hl : IsP n₀ A a len ps) : IsP n₁ A a len ps := by
  obtain ⟨h1, h2, h3⟩ := hl
  refine ⟨h1, h2, ?_⟩
  rcases h3 with h3 | ⟨b, off, ha, hb, hk⟩
  · exact .inl h3
  · exact .inr ⟨b, off, ha, by omega, fun j p hp => by
      obtain ⟨k1, k2, k3, k4⟩ := hk j p hp
      exact ⟨k1, k2, k3.mono hle, k4.mono hle⟩⟩
/-- The j-th pair, in a later world. -/
theorem pair_at {n : Nat} {w wr : World} {a : Option Addr} {len : Nat} {ps : List (Tm n × Tm n)} (hl : IsP w.heap.size w a len ps) (hbw : Below w.heap.size w wr) {j : Nat} (hj : j < len) :
    ∃ u v b off, ps[j]? = some (u, v) ∧ a = some ⟨b, off, none⟩ ∧ b < w.heap.size ∧ IsT wr.heap.size wr u ∧ IsT wr.heap.size wr v ∧ cellsAt wr b (off + j * 8) u.tv ∧ cellsAt wr b (off + j * 8 + 4) v.tv := by
  obtain ⟨h1, h2, h3⟩ := hl.below hbw
  obtain ⟨p, hp⟩ : ∃ p, ps[j]? = some p := ⟨ps[j]'(by omega), List.getElem?_eq_getElem (by omega)⟩
  have hne : ps ≠ [] := by rintro rfl; simp at hp
  obtain ⟨b, off, ha, hb, hk⟩ := h3.resolve_left hne
  obtain ⟨k1, k2, k3, k4⟩ := hk j p hp
  exact ⟨p.1, p.2, b, off, hp, ha, hb, k3.mono hbw.size, k4.mono hbw.size, k1, k2⟩

/-- Pairs that a call keeps in a row of its own; their terms lie below n₀. -/
structure MadeP (D n₀ base : Nat) (W : World) (v : Value) (l : List (TV × TV)) (c : List Pr) : Prop where
  owns : W.ownsRow base 114 8 v l.length (l.flatMap pRow)
  lim : D ≤ 2199023255552
  kids : ∀ M, D ≤ M → M ≤ 2199023255552 → ∃ ks : List (Tm M × Tm M), ks.map (fun p => (p.1.tv, p.2.tv)) = l ∧ (∀ p ∈ ks, IsT n₀ W p.1 ∧ IsT n₀ W p.2) ∧ cpP ks = c
theorem MadeP.zero (D n₀ base : Nat) (W : World) (hD : D ≤ 2199023255552 := by omega) : MadeP D n₀ base W (.slice none 0 0) [] [] :=
  ⟨⟨rfl, .inl ⟨rfl, rfl⟩⟩, hD, fun _ _ _ => ⟨[], rfl, (fun u hu => by cases hu), rfl⟩⟩
theorem MadeP.slice {D n₀ base : Nat} {W : World} {v : Value} {l : List (TV × TV)} {c : List Pr} (h : MadeP D n₀ base W v l c) : ∃ a cap, v = .slice a l.length cap := by
  obtain ⟨_, h2⟩ := h.owns
  rcases h2 with ⟨hv, hn⟩ | ⟨g, cap, cur, hv, _⟩
  · exact ⟨none, 0, by rw [hv, hn]⟩
  · exact ⟨_, cap, hv⟩
theorem MadeP.len {D n₀ base : Nat} {W : World} {v : Value} {l : List (TV × TV)} {c : List Pr} (h : MadeP D n₀ base W v l c) : c.length = l.length := by
  obtain ⟨ks, k1, _, k3⟩ := h.kids D (Nat.le_refl _) h.lim
  rw [← k1, ← k3]; simp [cpP]
theorem MadeP.isP {D n₀ base : Nat} {W : World} {v : Value} {l : List (TV × TV)} {c : List Pr} (h : MadeP D n₀ base W v l c) (hl : l.length ≤ 1152921504606846976) (hn : n₀ ≤ W.heap.size) :
    ∃ a cap, v = .slice a l.length cap ∧ ∀ M, D ≤ M → M ≤ 2199023255552 → ∃ ks : List (Tm M × Tm M), IsP W.heap.size W a l.length ks ∧ cpP ks = c ∧ ∀ p ∈ ks, IsT n₀ W p.1 ∧ IsT n₀ W p.2 := by
  obtain ⟨_, h2⟩ := h.owns
  rcases h2 with ⟨hv, hn'⟩ | ⟨g, cap, cur, hv, hg, hb, hnc, _, hcs, htk⟩
  · have hnil : l = [] := List.length_eq_zero_iff.1 hn'
    subst hnil
    refine ⟨none, 0, hv, fun M hM hlm => ?_⟩
    obtain ⟨ks, k1, k2, k3⟩ := h.kids M hM hlm
    have hk : ks = [] := by simpa using k1
    exact ⟨ks, ⟨by simp [hk], by simp, .inl hk⟩, k3, k2⟩
  · refine ⟨some ⟨g, 0, none⟩, cap, hv, fun M hM hlm => ?_⟩
    obtain ⟨ks, k1, k2, k3⟩ := h.kids M hM hlm
    have hkl : l.length = ks.length := by rw [← k1]; simp
    have hc : ∀ q u, (l.flatMap pRow)[q]? = some u → W.cell? ⟨g, q, none⟩ = some u := fun q u hq => by
      rw [← htk, List.getElem?_take] at hq
      split at hq
      · simp [World.cell?, hb]
        simpa using hq
      · cases hq
    refine ⟨ks, ⟨hkl, hl, .inr ⟨g, 0, rfl, (Array.getElem?_eq_some_iff.1 hb).1, fun j p hp => ?_⟩⟩, k3, k2⟩
    have hlj : l[j]? = some (p.1.tv, p.2.tv) := by rw [← k1, List.getElem?_map, hp]; rfl
    have hr := pRow_at l j _ hlj
    rw [Nat.zero_add]
    obtain ⟨z1, z2⟩ := k2 p (List.mem_of_getElem? hp)
    exact ⟨⟨hc _ _ (by simpa using hr 0 _ rfl), hc _ _ (hr 1 _ rfl), hc _ _ (hr 2 _ rfl), hc _ _ (hr 3 _ rfl)⟩, ⟨hc _ _ (hr 4 _ rfl), hc _ _ (hr 5 _ rfl), hc _ _ (hr 6 _ rfl), hc _ _ (hr 7 _ rfl)⟩, z1.mono hn, z2.mono hn⟩
theorem MadeP.below {D n₀ base : Nat} {W W' : World} {v : Value} {l : List (TV × TV)} {c : List Pr} (h : MadeP D n₀ base W v l c) (hb : Below W.heap.size W W') (hn : n₀ ≤ W.heap.size) : MadeP D n₀ base W' v l c :=
  ⟨owns_below h.owns (fun g hg => hb.block g (owns_lt h.owns hg).2), h.lim, fun M hM hlm => by
    obtain ⟨ks, k1, k2, k3⟩ := h.kids M hM hlm
    exact ⟨ks, k1, fun p hp => ⟨(k2 p hp).1.below (hb.mono hn), (k2 p hp).2.below (hb.mono hn)⟩, k3⟩⟩
/-- More of them, behind an append. -/
theorem MadeP.next {D n₀ base base' : Nat} {W W6 w' : World} {v v' v6 : Value} {l l' : List (TV × TV)} {c c' : List Pr} (h : MadeP D n₀ base W v l c) (hb : Below n₀ W W6) (h6 : MadeP D n₀ base' W6 v6 l' c')
    (hown : w'.ownsRow base 114 8 v' (l.length + l'.length) (l.flatMap pRow ++ l'.flatMap pRow)) (hg : Below n₀ W6 w') : MadeP D n₀ base w' v' (l ++ l') (c ++ c') := by
  refine ⟨by simpa [List.flatMap_append] using hown, h.lim, fun M hM hlm => ?_⟩
  obtain ⟨ks, k1, k2, k3⟩ := h.kids M hM hlm
  obtain ⟨ks', j1, j2, j3⟩ := h6.kids M hM hlm
  refine ⟨ks ++ ks', by simp [k1, j1], fun p hp => ?_, by unfold cpP at *; simp [k3, j3]⟩
  rcases List.mem_append.1 hp with hp | hp
  · exact ⟨((k2 p hp).1.below hb).below hg, ((k2 p hp).2.below hb).below hg⟩
  · exact ⟨(j2 p hp).1.below hg, (j2 p hp).2.below hg⟩
theorem pRow_src {D n₀ base : Nat} {W : World} {v : Value} {l : List (TV × TV)} {c : List Pr} (h : MadeP D n₀ base W v l c) (h1 : 1 ≤ l.length) :
    ∃ g cap, v = .slice (some ⟨g, 0, none⟩) l.length cap ∧ ∀ j u, (l.flatMap pRow)[j]? = some u → W.cell? ((⟨g, 0, none⟩ : Addr).add j) = some u := by
  obtain ⟨_, h2⟩ := h.owns
  rcases h2 with ⟨_, hn⟩ | ⟨g, cap, cur, hv, hg, hb, _, _, _, htk⟩
  · omega
  · refine ⟨g, cap, hv, fun j u hj => ?_⟩
    rw [addr_add, Nat.zero_add]
    rw [← htk, List.getElem?_take] at hj
    split at hj
    · simp [World.cell?, hb]
      simpa using hj
    · cases hj
theorem Tryz.info_pair : (Tryz.prog.info? 114).map (fun i => (i.zero, i.size, i.bytes)) = some (some (.agg #[.int .i64 0, .int .i64 0, .string ⟨#[]⟩, .slice none 0 0, .int .i64 0, .int .i64 0, .string ⟨#[]⟩, .slice none 0 0]), 8, 112) := by kernel_rfl
/-- One row of pairs behind another. -/
theorem MadeP.append {D n₀ base base' : Nat} {W : World} {v v' : Value} {l l' : List (TV × TV)} {c c' : List Pr} (h : MadeP D n₀ base W v l c) (h' : MadeP D n₀ base' W v' l' c') (ty : TypeId) (hl : l.length + l'.length ≤ 1000000000) (hn : n₀ ≤ base) (hb : base ≤ W.heap.size) :
    ∃ u w', (Builtin.append_ #[110, 110] ty #[v, v']).run Tryz.prog W = .ok u w' ∧ MadeP D n₀ base w' u (l ++ l') (c ++ c') ∧ W.grownBy w' v.ownBlock := by
  obtain ⟨i0, hi, hz0, hz1, hz2⟩ := info_parts Tryz.info_pair
  by_cases h0 : l' = []
  · subst h0
    have hc0 : c' = [] := List.length_eq_zero_iff.1 (by rw [h'.len]; rfl)
    subst hc0
    obtain ⟨_, g2⟩ := h'.owns
    rcases g2 with ⟨hv, _⟩ | ⟨g, cap, cur, hv, hg, hbk, hnc, hcm, hcs, htk⟩
    · rw [hv]
      exact ⟨v, W, run_append_owned_none (P := Tryz.prog) (w := W) base 110 ty 114 i0 8 Tryz.underlying110 hi v _ _ h.owns, by simpa using h, ⟨rfl, rfl, rfl, Nat.le_refl _, fun _ _ _ => rfl⟩⟩
    · obtain ⟨u, w', hr, hown, hgrow, _⟩ := run_append_own_at (P := Tryz.prog) W base 110 ty 114 i0 _ 8 112 Tryz.underlying110 hi hz0 hz1 hz2 rfl (by decide) v _ _ h.owns ⟨g, 0, none⟩ 0 cap [] rfl (fun j u hj => by simp at hj) (fun u hu => by cases hu) (by unfold maxLen; omega) (by omega) hb
      rw [hv]
      exact ⟨u, w', hr, h.next (Below.refl _ _) (MadeP.zero D n₀ base W h.lim) (by simpa using hown) ((Below.refl _ W).grown hgrow (by omega) (fun g hg => Nat.le_trans hn (owns_lt h.owns hg).1)), hgrow⟩
  · obtain ⟨g, cap, hv, hsrc⟩ := pRow_src h' (by cases l' with | nil => exact (h0 rfl).elim | cons _ _ => simp)
    obtain ⟨u, w', hr, hown, hgrow, _⟩ := run_append_own_at (P := Tryz.prog) W base 110 ty 114 i0 _ 8 112 Tryz.underlying110 hi hz0 hz1 hz2 rfl (by decide) v _ _ h.owns ⟨g, 0, none⟩ l'.length cap (l'.flatMap pRow) (pRow_len _) hsrc (pRow_one _) (by unfold maxLen; omega) (by omega) hb
    rw [hv]
    exact ⟨u, w', hr, h.next (Below.refl _ _) h' hown ((Below.refl _ W).grown hgrow (by omega) (fun g hg => Nat.le_trans hn (owns_lt h.owns hg).1)), hgrow⟩
end Go.Proofs.YtojefplapklbmaaGreatDoor

/- The contract of hornref.nth: where a pair stands in a row of pairs. -/
namespace Go.Proofs.YtojefplapklbmaaGreatDoor
open Go.RowKit Go.Shelf Go.Maps

/-- What nth answers. -/
def nthI (cs : List Pr) (q : Pr) : Int := if q ∈ cs then (cs.idxOf q : Nat) else -1
theorem nthI_at {cs : List Pr} {q : Pr} {j : Nat} (h : cs[j]? = some q) (hn : ∀ (i : Nat) p, cs[i]? = some p → i < j → p ≠ q) : nthI cs q = (j : Nat) := by
  unfold nthI
  rw [if_pos (List.mem_of_getElem? h)]
  obtain ⟨hj, hjN⟩ := List.getElem?_eq_some_iff.1 h
  have h1 : cs.idxOf q < cs.length := List.idxOf_lt_length_of_mem (List.mem_of_getElem? h)
  have h2 : cs[cs.idxOf q] = q := List.getElem_idxOf h1
  have h3 : ¬ cs.idxOf q < j := fun hlt => hn _ _ (List.getElem?_eq_getElem h1) hlt h2
  have h4 : ¬ j < cs.idxOf q := fun hlt => by
    have := List.not_of_lt_findIdx (p := (· == q)) (xs := cs) (i := j) hlt
    simp [hjN] at this
  have : cs.idxOf q = j := by omega
  rw [this]
theorem nthI_no {cs : List Pr} {q : Pr} (h : q ∉ cs) : nthI cs q = -1 := if_neg h

set_option maxRecDepth 100000 in
set_option maxHeartbeats 2000000 in
theorem nth_any {n : Nat} (ps : List (Tm n × Tm n)) (a : Option Addr) (len cap : Nat) (x y : Tm n) (w : World) (hps : IsP w.heap.size w a len ps) (hx : IsT w.heap.size w x) (hy : IsT w.heap.size w y) :
    Calls Tryz.prog 81 #[.slice a len cap, x.tv.val, y.tv.val] w fun e W' => e = .returned (.int .i64 (nthI (cpP ps) (code x, code y))) ∧ Below w.heap.size w W' := by
  have h1 := hps.1
  have h2 := hps.2.1
  have hl1 : len ≤ ps.length := by omega
  have hl2 : ps.length ≤ len := by omega
  clear h1
  obtain ⟨W1, hW1, hB1, hba, hbb, hsz⟩ := two_new w x.tv y.tv
  have HP := hide hps
  have HX := hide hx
  have HY := hide hy
  have HB1 := hide hB1
  have HBA := hide hba
  have HBB := hide hbb
  have HSZ := hide hsz
  clear hps hx hy hB1 hba hbb hsz
  simp only [TV.val]
  go_enter Tryz.func81, Tryz.ntmps81
  go_wp2_with fail
  clear hW1
  go_loopw [7] (fun i wr => ∃ j : Nat, j ≤ len ∧ i = .int .i64 j ∧ (∀ (i : Nat) p, (cpP ps)[i]? = some p → i < j → p ≠ (code x, code y)) ∧ Below W1.heap.size W1 wr) (fun i _ => len - (intOf i).toNat)
  case atStart => exact ⟨0, Nat.zero_le _, rfl, fun i p _ h => by omega, Below.refl _ _⟩
  case round =>
    obtain ⟨j, hj, rfl, hs, hb⟩ := hrel
    have hbw : Below w.heap.size w wr := (unhide HB1).trans (hb.mono (unhide HB1).size)
    have HS := hide hs
    clear hs
    by_cases hlt : j < len
    · obtain ⟨u, v, b, off, hu, rfl, hbk, hTu, hTv, ⟨c0, c1, c2, c3⟩, ⟨d0, d1, d2, d3⟩⟩ := pair_at (unhide HP) hbw hlt
      have hxr : IsT wr.heap.size wr x := ((unhide HX).below hbw).mono hbw.size
      have hyr : IsT wr.heap.size wr y := ((unhide HY).below hbw).mono hbw.size
      have hcj : (cpP ps)[j]? = some (code u, code v) := by unfold cpP; rw [List.getElem?_map, hu]; rfl
      have hbax : BoxT wr w.heap.size x.tv := (hb.block _ (by have := unhide HSZ; omega)).trans (unhide HBA)
      have hbbx : BoxT wr (w.heap.size + 1) y.tv := (hb.block _ (by have := unhide HSZ; omega)).trans (unhide HBB)
      have e0 := hbax.c0
      have e1 := hbax.c1
      have e2 := hbax.c2
      have e3 := hbax.c3
      have f0 := hbbx.c0
      have f1 := hbbx.c1
      have f2 := hbbx.c2
      have f3 := hbbx.c3
      have hdr : Below wr.heap.size wr wr.drew := (Below.refl _ wr).drew
      have hs1 : Calls Tryz.prog 41 #[.agg #[.int .i64 u.tv.k, .int .i64 u.tv.N, .string u.tv.s, .slice u.tv.a u.tv.len u.tv.cap], .agg #[.int .i64 x.tv.k, .int .i64 x.tv.N, .string x.tv.s, .slice x.tv.a x.tv.len x.tv.cap]] wr.drew fun e W2 => e = .returned (.bool (decide (code u = code x))) ∧ Below wr.heap.size wr W2 := by
        have h := same_any n u x wr.drew (hTu.below hdr) (hxr.below hdr)
        rw [sameT_code hTu.wl hxr.wl] at h
        exact h.mono fun e W2 h => ⟨h.1, hdr.trans h.2⟩
      have hs2 : ∀ W2, Below wr.heap.size wr W2 → Calls Tryz.prog 41 #[.agg #[.int .i64 v.tv.k, .int .i64 v.tv.N, .string v.tv.s, .slice v.tv.a v.tv.len v.tv.cap], .agg #[.int .i64 y.tv.k, .int .i64 y.tv.N, .string y.tv.s, .slice y.tv.a y.tv.len y.tv.cap]] W2 fun e W3 => e = .returned (.bool (decide (code v = code y))) ∧ Below wr.heap.size wr W3 := fun W2 hb2 => by
        have h := same_any n v y W2 ((hTv.below hb2).mono hb2.size) ((hyr.below hb2).mono hb2.size)
        rw [sameT_code hTv.wl hyr.wl] at h
        exact h.mono fun e W3 h => ⟨h.1, hb2.trans (h.2.mono hb2.size)⟩
      have hy0 : w.heap.size < wr.heap.size := hbax.lt
      have hy1 : w.heap.size + 1 < wr.heap.size := hbbx.lt
      have hy2 : b < wr.heap.size := by have := hbw.size; omega
      have hj1 : (j : Int) < len := by omega
      have hnext : (code u, code v) ≠ (code x, code y) → ∀ (i : Nat) p, (cpP ps)[i]? = some p → i < j + 1 → p ≠ (code x, code y) := fun hne i p hp hi => by
        by_cases e : i = j
        · subst e; rw [hcj] at hp; cases hp; exact hne
        · exact (unhide HS) i p hp (by omega)
      have hfound : code u = code x → code v = code y → nthI (cpP ps) (code x, code y) = (j : Nat) := fun e1 e2 => nthI_at (by rw [hcj, e1, e2]) (unhide HS)
      have HN := hide hnext
      have HF := hide hfound
      have HS2 := hide hs2
      clear hTu hTv hxr hyr hcj hbax hbbx hdr hnext hfound hs2 hu
      by_cases hux : code u = code x
      · rw [decide_eq_true hux] at hs1
        by_cases hvy : code v = code y
        · have HFO := hide ((unhide HF) hux hvy)
          have hs3 := fun W2 hb2 => (unhide HS2) W2 hb2
          rw [decide_eq_true hvy] at hs3
          clear hux hvy
          go_wp2_with fail
          go_region_held3 (fun w' => w'.cell? ⟨b, off + j * 8, none⟩ = some (.int .i64 u.tv.k) ∧ w'.cell? ⟨b, off + j * 8 + 1, none⟩ = some (.int .i64 u.tv.N) ∧ w'.cell? ⟨b, off + j * 8 + 2, none⟩ = some (.string u.tv.s) ∧ w'.cell? ⟨b, off + j * 8 + 3, none⟩ = some (.slice u.tv.a u.tv.len u.tv.cap)
            ∧ w'.cell? ⟨b, off + j * 8 + 4, none⟩ = some (.int .i64 v.tv.k) ∧ w'.cell? ⟨b, off + j * 8 + 4 + 1, none⟩ = some (.int .i64 v.tv.N) ∧ w'.cell? ⟨b, off + j * 8 + 4 + 2, none⟩ = some (.string v.tv.s) ∧ w'.cell? ⟨b, off + j * 8 + 4 + 3, none⟩ = some (.slice v.tv.a v.tv.len v.tv.cap)
            ∧ w'.cell? ⟨w.heap.size, 0, none⟩ = some (.int .i64 x.tv.k) ∧ w'.cell? ⟨w.heap.size, 1, none⟩ = some (.int .i64 x.tv.N) ∧ w'.cell? ⟨w.heap.size, 2, none⟩ = some (.string x.tv.s) ∧ w'.cell? ⟨w.heap.size, 3, none⟩ = some (.slice x.tv.a x.tv.len x.tv.cap)
            ∧ w'.cell? ⟨w.heap.size + 1, 0, none⟩ = some (.int .i64 y.tv.k) ∧ w'.cell? ⟨w.heap.size + 1, 1, none⟩ = some (.int .i64 y.tv.N) ∧ w'.cell? ⟨w.heap.size + 1, 2, none⟩ = some (.string y.tv.s) ∧ w'.cell? ⟨w.heap.size + 1, 3, none⟩ = some (.slice y.tv.a y.tv.len y.tv.cap)) (go_keep)
            (first | (go_at_call 41; refine hs1.mono ?_; clear hs1; rintro e W2 ⟨rfl, hb2⟩; have hbc := bcell hb2) | (go_at_call 41; refine (hs3 W2 hb2).mono ?_; clear hs3; rintro e W3 ⟨rfl, hb3⟩; have hbd := bcell hb3))
          clear hbc hbd
          go_wp2_with fail
          go_ret
          exact ⟨by rw [unhide HFO]; rfl, hbw.trans (hb3.mono hbw.size)⟩
        · have hne : (code u, code v) ≠ (code x, code y) := fun e => hvy (congrArg Prod.snd e)
          have HNN := hide ((unhide HN) hne)
          have hs3 := fun W2 hb2 => (unhide HS2) W2 hb2
          rw [decide_eq_false hvy] at hs3
          clear hux hvy hne
          go_wp2_with fail
          go_region_held3 (fun w' => w'.cell? ⟨b, off + j * 8, none⟩ = some (.int .i64 u.tv.k) ∧ w'.cell? ⟨b, off + j * 8 + 1, none⟩ = some (.int .i64 u.tv.N) ∧ w'.cell? ⟨b, off + j * 8 + 2, none⟩ = some (.string u.tv.s) ∧ w'.cell? ⟨b, off + j * 8 + 3, none⟩ = some (.slice u.tv.a u.tv.len u.tv.cap)
            ∧ w'.cell? ⟨b, off + j * 8 + 4, none⟩ = some (.int .i64 v.tv.k) ∧ w'.cell? ⟨b, off + j * 8 + 4 + 1, none⟩ = some (.int .i64 v.tv.N) ∧ w'.cell? ⟨b, off + j * 8 + 4 + 2, none⟩ = some (.string v.tv.s) ∧ w'.cell? ⟨b, off + j * 8 + 4 + 3, none⟩ = some (.slice v.tv.a v.tv.len v.tv.cap)
            ∧ w'.cell? ⟨w.heap.size, 0, none⟩ = some (.int .i64 x.tv.k) ∧ w'.cell? ⟨w.heap.size, 1, none⟩ = some (.int .i64 x.tv.N) ∧ w'.cell? ⟨w.heap.size, 2, none⟩ = some (.string x.tv.s) ∧ w'.cell? ⟨w.heap.size, 3, none⟩ = some (.slice x.tv.a x.tv.len x.tv.cap)
            ∧ w'.cell? ⟨w.heap.size + 1, 0, none⟩ = some (.int .i64 y.tv.k) ∧ w'.cell? ⟨w.heap.size + 1, 1, none⟩ = some (.int .i64 y.tv.N) ∧ w'.cell? ⟨w.heap.size + 1, 2, none⟩ = some (.string y.tv.s) ∧ w'.cell? ⟨w.heap.size + 1, 3, none⟩ = some (.slice y.tv.a y.tv.len y.tv.cap)) (go_keep)
            (first | (go_at_call 41; refine hs1.mono ?_; clear hs1; rintro e W2 ⟨rfl, hb2⟩; have hbc := bcell hb2) | (go_at_call 41; refine (hs3 W2 hb2).mono ?_; clear hs3; rintro e W3 ⟨rfl, hb3⟩; have hbd := bcell hb3))
          clear hbc hbd
          go_wp2_with fail
          go_roundw
          case rel => exact ⟨j + 1, by omega, by go_num, unhide HNN, hb.trans (hb3.mono hb.size)⟩
          case measure => simp [intOf]; omega
      · rw [decide_eq_false hux] at hs1
        have hne : (code u, code v) ≠ (code x, code y) := fun e => hux (congrArg Prod.fst e)
        have HNN := hide ((unhide HN) hne)
        clear hux hne
        go_wp2_with fail
        refine wp_region_noPanic ?_
        refine wp_region_held_drew (S := (fun w' => w'.cell? ⟨b, off + j * 8, none⟩ = some (.int .i64 u.tv.k) ∧ w'.cell? ⟨b, off + j * 8 + 1, none⟩ = some (.int .i64 u.tv.N) ∧ w'.cell? ⟨b, off + j * 8 + 2, none⟩ = some (.string u.tv.s) ∧ w'.cell? ⟨b, off + j * 8 + 3, none⟩ = some (.slice u.tv.a u.tv.len u.tv.cap) ∧ w'.cell? ⟨b, off + j * 8 + 4, none⟩ = some (.int .i64 v.tv.k) ∧ w'.cell? ⟨b, off + j * 8 + 4 + 1, none⟩ = some (.int .i64 v.tv.N) ∧ w'.cell? ⟨b, off + j * 8 + 4 + 2, none⟩ = some (.string v.tv.s) ∧ w'.cell? ⟨b, off + j * 8 + 4 + 3, none⟩ = some (.slice v.tv.a v.tv.len v.tv.cap) ∧ w'.cell? ⟨w.heap.size, 0, none⟩ = some (.int .i64 x.tv.k) ∧ w'.cell? ⟨w.heap.size, 1, none⟩ = some (.int .i64 x.tv.N) ∧ w'.cell? ⟨w.heap.size, 2, none⟩ = some (.string x.tv.s) ∧ w'.cell? ⟨w.heap.size, 3, none⟩ = some (.slice x.tv.a x.tv.len x.tv.cap) ∧ w'.cell? ⟨w.heap.size + 1, 0, none⟩ = some (.int .i64 y.tv.k) ∧ w'.cell? ⟨w.heap.size + 1, 1, none⟩ = some (.int .i64 y.tv.N) ∧ w'.cell? ⟨w.heap.size + 1, 2, none⟩ = some (.string y.tv.s) ∧ w'.cell? ⟨w.heap.size + 1, 3, none⟩ = some (.slice y.tv.a y.tv.len y.tv.cap))) (by kernel_rfl) ?_ (fun hHeld => ?_)
        · go_keep
        refine wpAnyH_take (i := 0) (oi := { dst := some 14, op := Op.move (Operand.tmp 0), type := 110, pos := "term.go:280", after := #[], guard := none }) (v := ?_) rfl (by kernel_rfl) (by kernel_rfl) (by kernel_rfl) (fun _ _ _ h => h) (Or.inl ⟨by rfl, ?_⟩) hHeld ?_
        rotate_left
        · (intro w' hSw; (try dsimp only at hSw); go_simp; try with_reducible rfl)
        try simp only [Act.put, List.setIfInBounds_toArray, List.set_cons_zero, List.set_cons_succ]
        refine wpAnyH_take (i := 1) (oi := { dst := some 15, op := Op.move (Operand.tmp 7), type := 3, pos := "term.go:280", after := #[], guard := none }) (v := ?_) rfl (by kernel_rfl) (by kernel_rfl) (by kernel_rfl) (fun _ _ _ h => h) (Or.inl ⟨by rfl, ?_⟩) hHeld ?_
        rotate_left
        · (intro w' hSw; (try dsimp only at hSw); go_simp; try with_reducible rfl)
        try simp only [Act.put, List.setIfInBounds_toArray, List.set_cons_zero, List.set_cons_succ]
        refine wpAnyH_take (i := 2) (oi := { dst := some 16, op := Op.indexAddr 110 (Operand.tmp 14) (Operand.tmp 15), type := 0, pos := "term.go:280", after := #[{ on := 0, ground := Ground.data }, { on := 1, ground := Ground.data }], guard := none }) (v := ?_) rfl (by kernel_rfl) (by kernel_rfl) (by kernel_rfl) (fun _ _ _ h => h) (Or.inl ⟨by rfl, ?_⟩) hHeld ?_
        rotate_left
        · (intro w' hSw; (try dsimp only at hSw); go_simp; try with_reducible rfl)
        try simp only [Act.put, List.setIfInBounds_toArray, List.set_cons_zero, List.set_cons_succ]
        refine wpAnyH_take (i := 3) (oi := { dst := some 17, op := Op.fieldAddr 114 (Operand.tmp 16) 0, type := 0, pos := "term.go:280", after := #[{ on := 2, ground := Ground.data }], guard := none }) (v := ?_) rfl (by kernel_rfl) (by kernel_rfl) (by kernel_rfl) (fun _ _ _ h => h) (Or.inl ⟨by rfl, ?_⟩) hHeld ?_
        rotate_left
        · (intro w' hSw; (try dsimp only at hSw); go_simp; try with_reducible rfl)
        try simp only [Act.put, List.setIfInBounds_toArray, List.set_cons_zero, List.set_cons_succ]
        refine wpAnyH_take (i := 4) (oi := { dst := some 18, op := Op.load 24 (Operand.tmp 17), type := 24, pos := "term.go:280", after := #[{ on := 3, ground := Ground.data }], guard := none }) (v := ?_) rfl (by kernel_rfl) (by kernel_rfl) (by kernel_rfl) (fun _ _ _ h => h) (Or.inl ⟨by rfl, ?_⟩) hHeld ?_
        rotate_left
        · (intro w' hSw; (try dsimp only at hSw); go_simp; try with_reducible rfl)
        try simp only [Act.put, List.setIfInBounds_toArray, List.set_cons_zero, List.set_cons_succ]
        refine wpAnyH_take (i := 5) (oi := { dst := some 19, op := Op.load 24 (Operand.tmp 4), type := 24, pos := "term.go:280", after := #[], guard := none }) (v := ?_) rfl (by kernel_rfl) (by kernel_rfl) (by kernel_rfl) (fun _ _ _ h => h) (Or.inl ⟨by rfl, ?_⟩) hHeld ?_
        rotate_left
        · (intro w' hSw; (try dsimp only at hSw); go_simp; try with_reducible rfl)
        try simp only [Act.put, List.setIfInBounds_toArray, List.set_cons_zero, List.set_cons_succ]
        refine wpAnyH_ready (rs := [6]) (by kernel_rfl) (by simp) ?_
        refine AllReadyH.cons (o := { dst := some 20, op := Op.call { callee := Callee.value (Operand.func 41), args := #[Operand.tmp 18, Operand.tmp 19], argTypes := #[24, 24] }, type := 4, pos := "term.go:280", after := #[{ on := 4, ground := Ground.data }, { on := 5, ground := Ground.data }], guard := none }) rfl (fun K hK => ?_) AllReadyH.nil
        have hHold := hHeld
        clear hHeld
        go_simp
        refine hs1.mono ?_
        clear hs1
        rintro e W2 ⟨rfl, hb2⟩
        have hbc := bcell hb2
        go_wp2_with fail
        refine hK.out _ _ ?_ (fun hHeld => ?_)
        · ((try dsimp only); go_keep)
        clear hK K hHold
        try simp only [Act.put, List.setIfInBounds_toArray, List.set_cons_zero, List.set_cons_succ]
        refine wpAnyH_take (i := 7) (oi := { dst := some 21, op := Op.move (Operand.tmp 20), type := 4, pos := "term.go:280", after := #[{ on := 6, ground := Ground.data }, { on := 6, ground := Ground.chain }], guard := none }) (v := ?_) rfl (by kernel_rfl) (by kernel_rfl) (by kernel_rfl) (fun _ _ _ h => h) (Or.inl ⟨by rfl, ?_⟩) hHeld ?_
        rotate_left
        · (intro w' hSw; (try dsimp only at hSw); go_simp; try with_reducible rfl)
        try simp only [Act.put, List.setIfInBounds_toArray, List.set_cons_zero, List.set_cons_succ]
        refine wpAnyH_take (i := 8) (oi := { dst := some 22, op := Op.move (Operand.tmp 0), type := 110, pos := "term.go:280", after := #[{ on := 7, ground := Ground.guard }], guard := some (7, true) }) (v := undef) rfl (by kernel_rfl) (by kernel_rfl) (by kernel_rfl) (fun _ _ _ h => h) (Or.inr ⟨by rfl, rfl⟩) hHeld ?_
        try simp only [Act.put, List.setIfInBounds_toArray, List.set_cons_zero, List.set_cons_succ]
        refine wpAnyH_take (i := 9) (oi := { dst := some 23, op := Op.move (Operand.tmp 7), type := 3, pos := "term.go:280", after := #[{ on := 7, ground := Ground.guard }], guard := some (7, true) }) (v := undef) rfl (by kernel_rfl) (by kernel_rfl) (by kernel_rfl) (fun _ _ _ h => h) (Or.inr ⟨by rfl, rfl⟩) hHeld ?_
        try simp only [Act.put, List.setIfInBounds_toArray, List.set_cons_zero, List.set_cons_succ]
        refine wpAnyH_take (i := 10) (oi := { dst := some 24, op := Op.indexAddr 110 (Operand.tmp 22) (Operand.tmp 23), type := 0, pos := "term.go:280", after := #[{ on := 8, ground := Ground.data }, { on := 9, ground := Ground.data }, { on := 7, ground := Ground.guard }], guard := some (7, true) }) (v := undef) rfl (by kernel_rfl) (by kernel_rfl) (by kernel_rfl) (fun _ _ _ h => h) (Or.inr ⟨by rfl, rfl⟩) hHeld ?_
        try simp only [Act.put, List.setIfInBounds_toArray, List.set_cons_zero, List.set_cons_succ]
        refine wpAnyH_take (i := 11) (oi := { dst := some 25, op := Op.fieldAddr 114 (Operand.tmp 24) 1, type := 0, pos := "term.go:280", after := #[{ on := 10, ground := Ground.data }, { on := 7, ground := Ground.guard }], guard := some (7, true) }) (v := undef) rfl (by kernel_rfl) (by kernel_rfl) (by kernel_rfl) (fun _ _ _ h => h) (Or.inr ⟨by rfl, rfl⟩) hHeld ?_
        try simp only [Act.put, List.setIfInBounds_toArray, List.set_cons_zero, List.set_cons_succ]
        refine wpAnyH_take (i := 12) (oi := { dst := some 26, op := Op.load 24 (Operand.tmp 25), type := 24, pos := "term.go:280", after := #[{ on := 11, ground := Ground.data }, { on := 7, ground := Ground.guard }], guard := some (7, true) }) (v := undef) rfl (by kernel_rfl) (by kernel_rfl) (by kernel_rfl) (fun _ _ _ h => h) (Or.inr ⟨by rfl, rfl⟩) hHeld ?_
        try simp only [Act.put, List.setIfInBounds_toArray, List.set_cons_zero, List.set_cons_succ]
        refine wpAnyH_take (i := 13) (oi := { dst := some 27, op := Op.load 24 (Operand.tmp 5), type := 24, pos := "term.go:280", after := #[{ on := 7, ground := Ground.guard }], guard := some (7, true) }) (v := undef) rfl (by kernel_rfl) (by kernel_rfl) (by kernel_rfl) (fun _ _ _ h => h) (Or.inr ⟨by rfl, rfl⟩) hHeld ?_
        try simp only [Act.put, List.setIfInBounds_toArray, List.set_cons_zero, List.set_cons_succ]
        refine wpAnyH_take (i := 14) (oi := { dst := some 28, op := Op.call { callee := Callee.value (Operand.func 41), args := #[Operand.tmp 26, Operand.tmp 27], argTypes := #[24, 24] }, type := 4, pos := "term.go:280", after := #[{ on := 12, ground := Ground.data }, { on := 13, ground := Ground.data }, { on := 7, ground := Ground.chain }, { on := 7, ground := Ground.guard }], guard := some (7, true) }) (v := undef) rfl (by kernel_rfl) (by kernel_rfl) (by kernel_rfl) (fun _ _ _ h => h) (Or.inr ⟨by rfl, rfl⟩) hHeld ?_
        try simp only [Act.put, List.setIfInBounds_toArray, List.set_cons_zero, List.set_cons_succ]
        refine wpAnyH_take (i := 15) (oi := { dst := some 29, op := Op.pick (Operand.tmp 21) (Operand.tmp 28) (Operand.const (Value.bool false)), type := 4, pos := "term.go:280", after := #[{ on := 7, ground := Ground.data }, { on := 14, ground := Ground.data }], guard := none }) (v := ?_) rfl (by kernel_rfl) (by kernel_rfl) (by kernel_rfl) (fun _ _ _ h => h) (Or.inl ⟨by rfl, ?_⟩) hHeld ?_
        rotate_left
        · (intro w' hSw; (try dsimp only at hSw); go_simp; try with_reducible rfl)
        try simp only [Act.put, List.setIfInBounds_toArray, List.set_cons_zero, List.set_cons_succ]
        refine wpAnyH_done (by kernel_rfl) ?_ _
        refine NoPanic.normal ?_
        clear hbc
        go_wp2_with fail
        go_roundw
        case rel => exact ⟨j + 1, by omega, by go_num, unhide HNN, hb.trans (hb2.mono hb.size)⟩
        case measure => simp [intOf]; omega
    · have hno : (code x, code y) ∉ cpP ps := fun h => by
        obtain ⟨i, hi⟩ := List.mem_iff_getElem?.1 h
        exact (unhide HS) i _ hi (by have := (List.getElem?_eq_some_iff.1 hi).1; simp [cpP] at this; omega) rfl
      have HNO := hide hno
      clear hno
      go_wp2_with fail
      go_ret
      exact ⟨by rw [nthI_no (unhide HNO)]; rfl, hbw⟩
end Go.Proofs.YtojefplapklbmaaGreatDoor

