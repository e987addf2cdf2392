import Derived.Test.YtcdgmjpgmiehcaaGmHs
/- grammar's extended. -/
namespace Go.Proofs.Ytcdgmjpgmiehcaa
open Go.RowKit Go.Shelf

def anyP (_ : Nat) : Prop := True
theorem mk_room (c : Nat) (h : c ≤ 52) (w : World) : (Instr.makeSlice 22 (.int .i64 0) (.int .i64 (c : Int))).run Try.prog w = .ok (.slice (some ⟨w.heap.size, 0, none⟩) 0 c) (w.alloc (.cells (madeCells #[.int .i64 0, .int .i64 0, .string ⟨#[]⟩, .slice none 0 0] (c * 4)) 24)) := by
  obtain ⟨i0, hi, hz0, hz1, hz2⟩ := info_parts Try.infoT4
  have hr := run_make (P := Try.prog) w 22 24 i0 _ Try.underlying22 hi hz0 .i64 .i64 0 c (by omega) (by omega) (by rw [hz2]; omega) (by omega)
  rw [hz1] at hr
  simpa [Value.cells] using hr
theorem BoxT.kept' {A B : World} {k : Nat} {x : TV} (h : BoxT A k x) (hk : B.heap[k]? = A.heap[k]?) : BoxT B k x := hk.trans h
/-- What was copied so far. -/
def Copied (D lo B : Nat) {n : Nat} (kids : List (Tm n)) (L : List TV) (W : World) : Prop := ∀ (i : Nat) (x : TV), L[i]? = some x → ∃ u, kids[i]? = some u ∧ HoldsG (fun k => B < k) D lo W x.val (code u)
theorem Copied.move {D lo B n : Nat} {kids : List (Tm n)} {L : List TV} {W W' : World} (h : Copied D lo B kids L W) (hk : ∀ k, k < W.heap.size → k ≠ B → W'.heap[k]? = W.heap[k]?) (hs : W.heap.size ≤ W'.heap.size) : Copied D lo B kids L W' := fun i x hx => by
  obtain ⟨u, h1, h2⟩ := h i x hx
  exact ⟨u, h1, h2.move (fun k hp hkt => hk k hkt.lt (by omega)) hs⟩
theorem Copied.add {D lo B n : Nat} {kids : List (Tm n)} {L : List TV} {W : World} (h : Copied D lo B kids L W) {x : TV} {u : Tm n} (hu : kids[L.length]? = some u) (hx : HoldsG (fun k => B < k) D lo W x.val (code u)) : Copied D lo B kids (L ++ [x]) W := fun i y hy => by
  by_cases hi : i < L.length
  · rw [List.getElem?_append_left hi] at hy; exact h i y hy
  · rw [List.getElem?_append_right (by omega)] at hy
    have h0 : i - L.length = 0 := by
      by_cases e : i - L.length = 0
      · exact e
      · rw [List.getElem?_eq_none (by simp; omega)] at hy; cases hy
    rw [h0] at hy
    simp at hy
    subst hy
    have : i = L.length := by omega
    subst this
    exact ⟨u, hu, hx⟩
set_option maxRecDepth 100000 in
set_option maxHeartbeats 8000000 in
theorem extd_any {n D lo : Nat} (t : Tm (n + 1)) (y z : TV) {cy cz : List Nd} (V : World) (hT : IsT V.heap.size V t) (ok : okT t = true) (hlen : t.tv.len ≤ 48) (hy : HoldsG anyP D lo V y.val cy) (hz : HoldsG anyP D lo V z.val cz) (hlo : lo ≤ V.heap.size) (hD : n + 1 ≤ D) :
    Calls Try.prog 25 #[t.tv.val, y.val, z.val] V fun e V' => ∃ x : TV, e = .returned x.val ∧ HoldsG anyP (D + 1) lo V' x.val ((4, 0, t.tv.s.toList, t.tv.len + 2) :: (t.kids.flatMap code ++ (cy ++ cz))) ∧ Below V.heap.size V V' := by
  obtain ⟨x, kids⟩ := t
  have hkk := (ok_kids ok).2
  have hTl : x.len = kids.length := hT.1
  have hTs : x.s.size ≤ 9223372036854775807 := hT.2.2.1
  have hts := hT.2.2.2
  simp only [Tm.tv, Tm.kids] at hlen hts ⊢
  obtain ⟨W4, hW4⟩ : ∃ W4, (((V.alloc (.cells #[.int .i64 x.k, .int .i64 x.N, .string x.s, .slice x.a x.len x.cap] 24)).alloc (.cells #[.int .i64 y.k, .int .i64 y.N, .string y.s, .slice y.a y.len y.cap] 24)).alloc (.cells #[.int .i64 z.k, .int .i64 z.N, .string z.s, .slice z.a z.len z.cap] 24)).alloc (.cells #[.int .i64 0, .int .i64 0, .string ⟨#[]⟩, .slice none 0 0] 24) = W4 := ⟨_, rfl⟩
  have hs4 : W4.heap.size = V.heap.size + 4 := by rw [← hW4]; simp
  have g4 : Below V.heap.size V W4 := by rw [← hW4]; exact ((((Below.refl _ V).alloc (Nat.le_refl _) _).alloc (by simp) _).alloc (by simp; omega) _).alloc (by simp; omega) _
  have bx : BoxT W4 V.heap.size x := by rw [← hW4]; exact (((BoxT.new V x).alloc _).alloc _).alloc _
  have by' : BoxT W4 (V.heap.size + 1) y := by
    rw [← hW4]
    have := ((BoxT.new (V.alloc (.cells #[.int .i64 x.k, .int .i64 x.N, .string x.s, .slice x.a x.len x.cap] 24)) y).alloc (.cells #[.int .i64 z.k, .int .i64 z.N, .string z.s, .slice z.a z.len z.cap] 24)).alloc (.cells #[.int .i64 0, .int .i64 0, .string ⟨#[]⟩, .slice none 0 0] 24)
    rw [World.size_alloc] at this
    exact this
  have bz : BoxT W4 (V.heap.size + 1 + 1) z := by
    rw [← hW4]
    have := (BoxT.new ((V.alloc (.cells #[.int .i64 x.k, .int .i64 x.N, .string x.s, .slice x.a x.len x.cap] 24)).alloc (.cells #[.int .i64 y.k, .int .i64 y.N, .string y.s, .slice y.a y.len y.cap] 24)) z).alloc (.cells #[.int .i64 0, .int .i64 0, .string ⟨#[]⟩, .slice none 0 0] 24)
    rw [World.size_alloc, World.size_alloc] at this
    exact this
  have br : BoxT W4 (V.heap.size + 1 + 1 + 1) noTerm := by
    rw [← hW4]
    have := BoxT.new (((V.alloc (.cells #[.int .i64 x.k, .int .i64 x.N, .string x.s, .slice x.a x.len x.cap] 24)).alloc (.cells #[.int .i64 y.k, .int .i64 y.N, .string y.s, .slice y.a y.len y.cap] 24)).alloc (.cells #[.int .i64 z.k, .int .i64 z.N, .string z.s, .slice z.a z.len z.cap] 24)) noTerm
    rw [World.size_alloc, World.size_alloc, World.size_alloc] at this
    exact this
  obtain ⟨B, hB⟩ : ∃ B, W4.heap.size = B := ⟨_, rfl⟩
  obtain ⟨W5, hW5⟩ : ∃ W5, W4.alloc (.cells (madeCells #[.int .i64 0, .int .i64 0, .string ⟨#[]⟩, .slice none 0 0] ((x.len + 2) * 4)) 24) = W5 := ⟨_, rfl⟩
  have g5 : Below B W4 W5 := by rw [← hW5, ← hB]; exact (Below.refl _ W4).alloc (Nat.le_refl _) _
  have hs5 : W5.heap.size = B + 1 := by rw [← hW5, ← hB]; simp
  have hm := mk_room (x.len + 2) (by omega) W4
  rw [hB, hW5] at hm
  have hm' : (Instr.makeSlice 22 (.int .i64 0) (.int .i64 ((x.len : Int) + 2))).run Try.prog W4 = .ok (.slice (some ⟨B, 0, none⟩) 0 (x.len + 2)) W5 := by
    have e : ((x.len + 2 : Nat) : Int) = (x.len : Int) + 2 := by omega
    rw [e] at hm
    exact hm
  have S5 : StkT V.heap.size W5 (.slice (some ⟨B, 0, none⟩) 0 (x.len + 2)) [] := by
    refine ⟨fun r hr => (by simp at hr), by simp, .inr ⟨B, x.len + 2, madeCells #[.int .i64 0, .int .i64 0, .string ⟨#[]⟩, .slice none 0 0] ((x.len + 2) * 4), rfl, by omega, ?_, by simp, by unfold maxLen; omega, ?_, by simp⟩⟩
    · rw [← hW5, ← hB]; exact World.alloc_heap_new W4 _
    · simp [madeCells]
  have HY := hide (And.intro hy hz)
  have HB := hide (And.intro g4 (And.intro g5 (And.intro bx (And.intro by' (And.intro bz br)))))
  have HS := hide S5
  have HT := hide hts
  have c2 := bx.c2
  have c3 := bx.c3
  have d2 := (bx.below g5 (by omega)).c2
  have d3 := (bx.below g5 (by omega)).c3
  clear hT ok hy hz bx by' bz br g4 g5 S5 hts hm
  have hl1 : x.len ≤ kids.length := by omega
  have hl2 : kids.length ≤ x.len := by omega
  clear hTl
  simp only [TV.val]
  go_enter Try.func25, Try.ntmps25
  go_wp2_with fail
  try rw [hW4]
  go_wp2_with fail
  clear c2 c3 d2 d3
  go_loopw [7, 18] (fun v i wr => ∃ (j : Nat) (L : List TV), j ≤ x.len ∧ i = .int .i64 j ∧ v = .slice (some ⟨B, 0, none⟩) j (x.len + 2) ∧ L.length = j ∧ Hid (StkT V.heap.size wr (.slice (some ⟨B, 0, none⟩) j (x.len + 2)) L ∧ Copied D lo B kids L wr) ∧ Below B W5 wr) (fun _ i _ => x.len - (intOf i).toNat)
  case atStart => exact ⟨0, [], Nat.zero_le _, rfl, rfl, rfl, hide ⟨unhide HS, fun i x h => by simp at h⟩, Below.refl _ _⟩
  case round =>
    obtain ⟨j, L, hj, rfl, rfl, hL, HR, hb⟩ := hrel
    have hbV : Below V.heap.size V wr := (unhide HB).1.trans (((unhide HB).2.1.trans hb).mono (by omega))
    by_cases hlt : j < x.len
    · obtain ⟨u, b, off, hu, hxa, ⟨c0, c1, c2, c3⟩, hTu, hbk⟩ := kid_at (unhide HT) hbV hlt hl1
      obtain ⟨V1, hV1⟩ : ∃ V1, wr.alloc (.cells #[.int .i64 u.tv.k, .int .i64 u.tv.N, .string u.tv.s, .slice u.tv.a u.tv.len u.tv.cap] 24) = V1 := ⟨_, rfl⟩
      have g1 : Below wr.heap.size wr V1 := by rw [← hV1]; exact (Below.refl _ wr).alloc (Nat.le_refl _) _
      have hs1 : V1.heap.size = wr.heap.size + 1 := by rw [← hV1]; simp
      have b1 : BoxT V1 wr.heap.size u.tv := by rw [← hV1]; exact BoxT.new wr u.tv
      have d0 := b1.c0
      have d1 := b1.c1
      have d2 := b1.c2
      have d3 := b1.c3
      have hcp := copy_any u V1 ((hTu.below g1).mono g1.size) (hkk u (List.mem_of_getElem? hu))
      have HC := hide hcp
      have HU := hide hu
      have hsb := hb.size
      clear hTu b1 hcp hu
      simp only [TV.val] at HC
      rw [hxa]
      go_wp2_with fail
      try rw [hV1]
      go_wp2_with fail
      refine (unhide HC).mono ?_
      rintro e V2 ⟨x', rfl, h2, hH⟩
      have hs2 := h2.size
      have gV2 : Below wr.heap.size wr V2 := g1.trans (h2.mono g1.size)
      have hS2 := (unhide HR).1.below gV2
      rw [← hL] at hS2
      obtain ⟨X, hr, hXS, hgr⟩ := hS2.fit (h := V2.heap.size) [x'] #[.int .i64 x'.k, .int .i64 x'.N, .string x'.s, .slice x'.a x'.len x'.cap] rfl rfl (by simp only [List.length_cons, List.length_nil]; omega)
      rw [hL] at hr hXS
      simp only [List.length_cons, List.length_nil, Nat.zero_add] at hr hXS
      have gA : Below V2.heap.size V2 (V2.alloc (.cells #[.int .i64 x'.k, .int .i64 x'.N, .string x'.s, .slice x'.a x'.len x'.cap] 24)) := (Below.refl _ V2).alloc (Nat.le_refl _) _
      have hkeep : ∀ k, k < V2.heap.size → k ≠ B → X.heap[k]? = V2.heap[k]? := fun k hk hkB => (hgr.block k (Nat.lt_of_lt_of_le hk gA.size) (fun e => hkB (by simpa using e))).trans (gA.block k hk)
      have hcop : Copied D lo B kids (L ++ [x']) X := by
        have h1 := ((unhide HR).2.move (fun k hk _ => gV2.block k hk) gV2.size).move hkeep (Nat.le_trans gA.size hgr.size)
        refine h1.add (by rw [hL]; exact unhide HU) ?_
        refine (HoldsG.mono ((hH.holdsG (P := fun k => B < k) (fun k hk => by omega)).move (fun k hp hk => hkeep k hk.lt (by omega)) (Nat.le_trans gA.size hgr.size)) hD (by omega) (fun _ h => h))
      have hbX : Below B W5 X := ((hb.trans (gV2.mono (by omega))).trans (gA.mono (by omega))).grown hgr (by have := gA.size; omega) (fun k e => by simp at e; omega)
      have HF := hide (And.intro (And.intro hXS hcop) hbX)
      clear hgr hXS hcop hbX gA hkeep hS2 h2 hH HC HR hb hbV d0 d1 d2 d3
      go_wp2_with (at_builtin; go_must (refine wpList_append_run _ rfl _ _ _ _ rfl hr ?_))
      go_roundw
      case rel => exact ⟨j + 1, L ++ [x'], by omega, by go_num, rfl, by simp [hL], hide (unhide HF).1, (unhide HF).2⟩
      case measure => simp [intOf]; omega
    · obtain rfl : j = x.len := by omega
      obtain ⟨g4, g5, bx, by', bz, br⟩ := unhide HB
      have hs5b := hb.size
      have gB : Below B W4 wr := g5.trans hb
      obtain ⟨D1, hD1⟩ : ∃ D1, wr.drew = D1 := ⟨_, rfl⟩
      have hDB : Below wr.heap.size wr D1 := by rw [← hD1]; exact (Below.refl _ wr).drew
      have hDs : D1.heap.size = wr.heap.size := by rw [← hD1]; rfl
      have gD : Below B W4 D1 := gB.trans (hDB.mono (by omega))
      have hSD := (unhide HR).1.below hDB
      rw [← hL] at hSD
      obtain ⟨X, hr, hXS, hgr⟩ := hSD.fit (h := wr.heap.size) [y, z] #[.int .i64 y.k, .int .i64 y.N, .string y.s, .slice y.a y.len y.cap, .int .i64 z.k, .int .i64 z.N, .string z.s, .slice z.a z.len z.cap] rfl hDs (by simp only [List.length_cons, List.length_nil]; omega)
      rw [hL] at hr hXS
      simp only [List.length_cons, List.length_nil, Nat.zero_add, Nat.reduceAdd] at hr hXS
      have gA : Below D1.heap.size D1 (D1.alloc (.cells #[.int .i64 y.k, .int .i64 y.N, .string y.s, .slice y.a y.len y.cap, .int .i64 z.k, .int .i64 z.N, .string z.s, .slice z.a z.len z.cap] 24)) := (Below.refl _ D1).alloc (Nat.le_refl _) _
      have gA4 := gD.trans (gA.mono (by omega))
      have gX : Below B W4 X := gA4.grown hgr (by have := gA4.size; omega) (fun k e => by simp at e; omega)
      have hcells : ∀ U, Below B W4 U → U.cell? ⟨V.heap.size, 2, none⟩ = some (.string x.s) ∧ (U.cell? ⟨V.heap.size + 1, 0, none⟩ = some (.int .i64 y.k) ∧ U.cell? ⟨V.heap.size + 1, 1, none⟩ = some (.int .i64 y.N) ∧ U.cell? ⟨V.heap.size + 1, 2, none⟩ = some (.string y.s) ∧ U.cell? ⟨V.heap.size + 1, 3, none⟩ = some (.slice y.a y.len y.cap)) ∧ U.cell? ⟨V.heap.size + 1 + 1, 0, none⟩ = some (.int .i64 z.k) ∧ U.cell? ⟨V.heap.size + 1 + 1, 1, none⟩ = some (.int .i64 z.N) ∧ U.cell? ⟨V.heap.size + 1 + 1, 2, none⟩ = some (.string z.s) ∧ U.cell? ⟨V.heap.size + 1 + 1, 3, none⟩ = some (.slice z.a z.len z.cap) := fun U hU => by
        have q1 := bx.below hU (by omega)
        have q2 := by'.below hU (by omega)
        have q3 := bz.below hU (by omega)
        exact ⟨q1.c2, ⟨q2.c0, q2.c1, q2.c2, q2.c3⟩, q3.c0, q3.c1, q3.c2, q3.c3⟩
      have KD := hcells D1 gD
      have KA := hcells _ gA4
      have KX := hcells X gX
      have HR2 := hide hr
      have HG : Hid (Calls Try.prog 24 #[.string x.s, .slice (some ⟨B, 0, none⟩) (x.len + 2) (x.len + 2)] X fun e W' => e = .returned (compV x.s (some ⟨B, 0, none⟩) (x.len + 2) (x.len + 2)).val ∧ Below X.heap.size X W') := hide (gcomp_any _ _ _ _ X)
      have hBX : lo ≤ B ∧ ∃ arr, X.heap[B]? = some (.cells arr 24 (0, 0)) ∧ arr.size = (L ++ [y, z]).length * 4 := by
        obtain ⟨_, _, h3⟩ := hXS
        rcases h3 with ⟨h3, _⟩ | ⟨g', cp', cur, h3, h4, h5, _, _, h8, _⟩
        · cases h3
        · simp only [Value.slice.injEq, Option.some.injEq, Addr.mk.injEq, and_true] at h3
          obtain ⟨rfl, h9⟩ := h3
          exact ⟨by omega, cur, h5, by rw [h8, ← h9.2, List.length_append, hL]; rfl⟩
      have hkeep : ∀ k, k < D1.heap.size → k ≠ B → X.heap[k]? = D1.heap[k]? := fun k hk hkB => (hgr.block k (Nat.lt_of_lt_of_le hk gA.size) (fun e => hkB (by simpa using e))).trans (gA.block k hk)
      have hszX : D1.heap.size ≤ X.heap.size := Nat.le_trans gA.size hgr.size
      have hVX : Below V.heap.size V X := g4.trans (gX.mono (by omega))
      have hold : ∀ {q : TV} {c : List Nd}, HoldsG anyP D lo V q.val c → HoldsG (fun k => k ≠ V.heap.size + 1 + 1 + 1) D lo X q.val c := fun h => by
        refine HoldsG.below (A := V) ?_ hVX
        exact HoldsG.weak h (Nat.le_refl _) fun k hk => ⟨by have := hk.2.lt; omega, hk.2⟩
      have hcop : Copied D lo B kids L X := ((unhide HR).2.move (fun k hk _ => hDB.block k hk) hDB.size).move hkeep hszX
      have hGX : HoldsG (fun k => k ≠ V.heap.size + 1 + 1 + 1) (D + 1) lo X (compV x.s (some ⟨B, 0, none⟩) (x.len + 2) (x.len + 2)).val ((4, 0, x.s.toList, x.len + 2) :: (kids.flatMap code ++ (cy ++ cz))) := by
        have hlen2 : (L ++ [y, z]).length = x.len + 2 := by simp [hL]
        have := comp_G (P := fun k => k ≠ V.heap.size + 1 + 1 + 1) (D := D) (lo := lo) (g := B) (cap := x.len + 2) (W := X) (s := x.s) (xs := L ++ [y, z]) (cs := kids.map code ++ [cy, cz]) hTs (by omega) (by simp [hL]; omega) hBX (by omega) (by omega) (fun i q c hq hc => by
          refine ⟨StkT.at hXS hlen2.symm hq, ?_⟩
          by_cases hi : i < x.len
          · rw [List.getElem?_append_left (by omega)] at hq
            obtain ⟨u, hu, hh⟩ := hcop i q hq
            rw [List.getElem?_append_left (by simp; omega), List.getElem?_map, hu] at hc
            simp at hc
            subst hc
            exact hh.mono (Nat.le_refl _) (Nat.le_refl _) (fun k hk => by omega)
          · rw [List.getElem?_append_right (by omega), hL] at hq
            rw [List.getElem?_append_right (by simp; omega), List.length_map, show kids.length = x.len by omega] at hc
            match hii : i - x.len, hq, hc with
            | 0, hq, hc =>
              simp at hq hc
              subst hq hc
              exact hold (unhide HY).1
            | 1, hq, hc =>
              simp at hq hc
              subst hq hc
              exact hold (unhide HY).2
            | m + 2, hq, hc => simp at hq)
        rw [hlen2] at this
        rw [List.flatten_append] at this
        simpa [List.flatMap, List.flatten_cons] using this
      have HFin : Hid (∀ X2, Below X.heap.size X X2 → (X2.cell? ⟨V.heap.size, 2, none⟩ = some (.string x.s) ∧ (X2.cell? ⟨V.heap.size + 1, 0, none⟩ = some (.int .i64 y.k) ∧ X2.cell? ⟨V.heap.size + 1, 1, none⟩ = some (.int .i64 y.N) ∧ X2.cell? ⟨V.heap.size + 1, 2, none⟩ = some (.string y.s) ∧ X2.cell? ⟨V.heap.size + 1, 3, none⟩ = some (.slice y.a y.len y.cap)) ∧ X2.cell? ⟨V.heap.size + 1 + 1, 0, none⟩ = some (.int .i64 z.k) ∧ X2.cell? ⟨V.heap.size + 1 + 1, 1, none⟩ = some (.int .i64 z.N) ∧ X2.cell? ⟨V.heap.size + 1 + 1, 2, none⟩ = some (.string z.s) ∧ X2.cell? ⟨V.heap.size + 1 + 1, 3, none⟩ = some (.slice z.a z.len z.cap)) ∧ ((set4 X2 (V.heap.size + 1 + 1 + 1) 0 (compV x.s (some ⟨B, 0, none⟩) (x.len + 2) (x.len + 2))).cell? ⟨V.heap.size, 2, none⟩ = some (.string x.s) ∧ ((set4 X2 (V.heap.size + 1 + 1 + 1) 0 (compV x.s (some ⟨B, 0, none⟩) (x.len + 2) (x.len + 2))).cell? ⟨V.heap.size + 1, 0, none⟩ = some (.int .i64 y.k) ∧ (set4 X2 (V.heap.size + 1 + 1 + 1) 0 (compV x.s (some ⟨B, 0, none⟩) (x.len + 2) (x.len + 2))).cell? ⟨V.heap.size + 1, 1, none⟩ = some (.int .i64 y.N) ∧ (set4 X2 (V.heap.size + 1 + 1 + 1) 0 (compV x.s (some ⟨B, 0, none⟩) (x.len + 2) (x.len + 2))).cell? ⟨V.heap.size + 1, 2, none⟩ = some (.string y.s) ∧ (set4 X2 (V.heap.size + 1 + 1 + 1) 0 (compV x.s (some ⟨B, 0, none⟩) (x.len + 2) (x.len + 2))).cell? ⟨V.heap.size + 1, 3, none⟩ = some (.slice y.a y.len y.cap)) ∧ (set4 X2 (V.heap.size + 1 + 1 + 1) 0 (compV x.s (some ⟨B, 0, none⟩) (x.len + 2) (x.len + 2))).cell? ⟨V.heap.size + 1 + 1, 0, none⟩ = some (.int .i64 z.k) ∧ (set4 X2 (V.heap.size + 1 + 1 + 1) 0 (compV x.s (some ⟨B, 0, none⟩) (x.len + 2) (x.len + 2))).cell? ⟨V.heap.size + 1 + 1, 1, none⟩ = some (.int .i64 z.N) ∧ (set4 X2 (V.heap.size + 1 + 1 + 1) 0 (compV x.s (some ⟨B, 0, none⟩) (x.len + 2) (x.len + 2))).cell? ⟨V.heap.size + 1 + 1, 2, none⟩ = some (.string z.s) ∧ (set4 X2 (V.heap.size + 1 + 1 + 1) 0 (compV x.s (some ⟨B, 0, none⟩) (x.len + 2) (x.len + 2))).cell? ⟨V.heap.size + 1 + 1, 3, none⟩ = some (.slice z.a z.len z.cap)) ∧ X2.frozen? ⟨V.heap.size + 1 + 1 + 1, 0, none⟩ = false ∧ X2.frozen? ⟨V.heap.size + 1 + 1 + 1, 1, none⟩ = false ∧ X2.frozen? ⟨V.heap.size + 1 + 1 + 1, 2, none⟩ = false ∧ X2.frozen? ⟨V.heap.size + 1 + 1 + 1, 3, none⟩ = false ∧
          X2.cell? ⟨V.heap.size + 1 + 1 + 1, 0, none⟩ = some (.int .i64 0) ∧ X2.cell? ⟨V.heap.size + 1 + 1 + 1, 1, none⟩ = some (.int .i64 0) ∧ X2.cell? ⟨V.heap.size + 1 + 1 + 1, 2, none⟩ = some (.string ⟨#[]⟩) ∧ X2.cell? ⟨V.heap.size + 1 + 1 + 1, 3, none⟩ = some (.slice none 0 0) ∧ BoxT (set4 X2 (V.heap.size + 1 + 1 + 1) 0 (compV x.s (some ⟨B, 0, none⟩) (x.len + 2) (x.len + 2))) (V.heap.size + 1 + 1 + 1) (compV x.s (some ⟨B, 0, none⟩) (x.len + 2) (x.len + 2)) ∧
          HoldsG anyP (D + 1) lo (set4 X2 (V.heap.size + 1 + 1 + 1) 0 (compV x.s (some ⟨B, 0, none⟩) (x.len + 2) (x.len + 2))) (compV x.s (some ⟨B, 0, none⟩) (x.len + 2) (x.len + 2)).val ((4, 0, x.s.toList, x.len + 2) :: (kids.flatMap code ++ (cy ++ cz))) ∧ Below V.heap.size V (set4 X2 (V.heap.size + 1 + 1 + 1) 0 (compV x.s (some ⟨B, 0, none⟩) (x.len + 2) (x.len + 2)))) := hide fun X2 h2 => by
        have q4 : Below B W4 X2 := gX.trans (h2.mono (by have := gX.size; omega))
        have qr := br.below q4 (by omega)
        obtain ⟨f0, f1, f2, f3⟩ := qr.frz
        have k2 := hcells X2 q4
        have o := fun k (hk : k ≠ V.heap.size + 1 + 1 + 1) => set4_other X2 (V.heap.size + 1 + 1 + 1) 0 (compV x.s (some ⟨B, 0, none⟩) (x.len + 2) (x.len + 2)) hk
        have k3 : (set4 X2 (V.heap.size + 1 + 1 + 1) 0 (compV x.s (some ⟨B, 0, none⟩) (x.len + 2) (x.len + 2))).cell? ⟨V.heap.size, 2, none⟩ = some (.string x.s) ∧ ((set4 X2 (V.heap.size + 1 + 1 + 1) 0 (compV x.s (some ⟨B, 0, none⟩) (x.len + 2) (x.len + 2))).cell? ⟨V.heap.size + 1, 0, none⟩ = some (.int .i64 y.k) ∧ (set4 X2 (V.heap.size + 1 + 1 + 1) 0 (compV x.s (some ⟨B, 0, none⟩) (x.len + 2) (x.len + 2))).cell? ⟨V.heap.size + 1, 1, none⟩ = some (.int .i64 y.N) ∧ (set4 X2 (V.heap.size + 1 + 1 + 1) 0 (compV x.s (some ⟨B, 0, none⟩) (x.len + 2) (x.len + 2))).cell? ⟨V.heap.size + 1, 2, none⟩ = some (.string y.s) ∧ (set4 X2 (V.heap.size + 1 + 1 + 1) 0 (compV x.s (some ⟨B, 0, none⟩) (x.len + 2) (x.len + 2))).cell? ⟨V.heap.size + 1, 3, none⟩ = some (.slice y.a y.len y.cap)) ∧ (set4 X2 (V.heap.size + 1 + 1 + 1) 0 (compV x.s (some ⟨B, 0, none⟩) (x.len + 2) (x.len + 2))).cell? ⟨V.heap.size + 1 + 1, 0, none⟩ = some (.int .i64 z.k) ∧ (set4 X2 (V.heap.size + 1 + 1 + 1) 0 (compV x.s (some ⟨B, 0, none⟩) (x.len + 2) (x.len + 2))).cell? ⟨V.heap.size + 1 + 1, 1, none⟩ = some (.int .i64 z.N) ∧ (set4 X2 (V.heap.size + 1 + 1 + 1) 0 (compV x.s (some ⟨B, 0, none⟩) (x.len + 2) (x.len + 2))).cell? ⟨V.heap.size + 1 + 1, 2, none⟩ = some (.string z.s) ∧ (set4 X2 (V.heap.size + 1 + 1 + 1) 0 (compV x.s (some ⟨B, 0, none⟩) (x.len + 2) (x.len + 2))).cell? ⟨V.heap.size + 1 + 1, 3, none⟩ = some (.slice z.a z.len z.cap) := by
          have q1 := (bx.below q4 (by omega)).kept' (o _ (by omega))
          have q2 := (by'.below q4 (by omega)).kept' (o _ (by omega))
          have q3 := (bz.below q4 (by omega)).kept' (o _ (by omega))
          exact ⟨q1.c2, ⟨q2.c0, q2.c1, q2.c2, q2.c3⟩, q3.c0, q3.c1, q3.c2, q3.c3⟩
        refine ⟨k2, k3, f0, f1, f2, f3, qr.c0, qr.c1, qr.c2, qr.c3, set4_box qr _, ?_, set4_below (hVX.trans (h2.mono hVX.size)) (by omega) 0 _⟩
        exact ((hGX.below h2).move (fun k hk _ => o k hk) (by rw [set4_size]; exact Nat.le_refl _)).mono (Nat.le_refl _) (Nat.le_refl _) (fun _ _ => trivial)
      clear hgr hXS gA gA4 hcells gX hSD hDB gD gB hcop hGX hold hkeep hBX hVX hszX g4 g5 bx by' bz br HB HR hr HY HS HT hb hbV
      go_wp2_with fail
      refine wp_region_noPanic ?_
      refine wp_region_held_drew (S := fun w' => w'.cell? ⟨V.heap.size, 2, none⟩ = some (.string x.s) ∧ (w'.cell? ⟨V.heap.size + 1, 0, none⟩ = some (.int .i64 y.k) ∧ w'.cell? ⟨V.heap.size + 1, 1, none⟩ = some (.int .i64 y.N) ∧ w'.cell? ⟨V.heap.size + 1, 2, none⟩ = some (.string y.s) ∧ w'.cell? ⟨V.heap.size + 1, 3, none⟩ = some (.slice y.a y.len y.cap)) ∧ w'.cell? ⟨V.heap.size + 1 + 1, 0, none⟩ = some (.int .i64 z.k) ∧ w'.cell? ⟨V.heap.size + 1 + 1, 1, none⟩ = some (.int .i64 z.N) ∧ w'.cell? ⟨V.heap.size + 1 + 1, 2, none⟩ = some (.string z.s) ∧ w'.cell? ⟨V.heap.size + 1 + 1, 3, none⟩ = some (.slice z.a z.len z.cap)) (by kernel_rfl) ?_ (fun hHeld => ?_)
      · rw [hD1]; exact KD
      rw [hD1] at hHeld ⊢
      clear hD1
      refine tk 0 rfl hHeld ?_
      refine tk 1 rfl hHeld ?_
      refine tk 2 rfl hHeld ?_
      refine tk 3 rfl hHeld ?_
      refine tk 4 rfl hHeld ?_
      refine rd 5 rfl fun K hK => ?_
      have hHold := hHeld
      clear hHeld
      go_simp
      refine hK.out _ _ ?_ (fun hHeld => ?_)
      · ((try dsimp only); exact KA)
      clear hK K hHold
      try simp only [pu]
      refine rd 6 rfl fun K hK => ?_
      have hHold := hHeld
      clear hHeld
      rw [if_pos (by rfl)]
      refine wp_append_row _ _ _ rfl rfl rfl (unhide HR2) ?_
      refine hK.out _ _ ?_ (fun hHeld => ?_)
      · ((try dsimp only); exact KX)
      clear hK K hHold
      try simp only [pu]
      refine rd 7 rfl fun K hK => ?_
      have hHold := hHeld
      clear hHeld
      go_simp
      refine (unhide HG).mono ?_
      rintro e X2 ⟨rfl, h2⟩
      obtain ⟨KX2, KF, r0, r1, r2, r3, z0, z1, z2, z3, bF, HZ⟩ := (unhide HFin) X2 h2
      have HZ' := hide HZ
      have HBF := hide bF
      clear HZ bF
      simp only [TV.val, compV]
      go_wp2_with fail
      refine hK.out _ _ ?_ (fun hHeld => ?_)
      · ((try dsimp only); exact KX2)
      clear hK K hHold
      try simp only [pu]
      refine rd 8 rfl fun K hK => ?_
      have hHold := hHeld
      clear hHeld
      go_simp
      refine hK.out _ _ ?_ (fun hHeld => ?_)
      · ((try dsimp only); exact KF)
      clear hK K hHold
      try simp only [pu]
      refine wpAnyH_done (by kernel_rfl) ?_ _
      refine NoPanic.normal ?_
      clear hHeld
      go_wp2_with fail
      have w0 := (unhide HBF).c0
      have w1 := (unhide HBF).c1
      have w2 := (unhide HBF).c2
      have w3 := (unhide HBF).c3
      exact bodyPost_ret (v := (compV x.s (some ⟨B, 0, none⟩) (x.len + 2) (x.len + 2)).val) (by
        have e : (((X2.setCell ⟨V.heap.size + 1 + 1 + 1, 0, none⟩ (.int .i64 4)).setCell ⟨V.heap.size + 1 + 1 + 1, 1, none⟩ (.int .i64 0)).setCell ⟨V.heap.size + 1 + 1 + 1, 2, none⟩ (.string x.s)).setCell ⟨V.heap.size + 1 + 1 + 1, 3, none⟩ (.slice (some ⟨B, 0, none⟩) (x.len + 2) (x.len + 2)) = set4 X2 (V.heap.size + 1 + 1 + 1) 0 (compV x.s (some ⟨B, 0, none⟩) (x.len + 2) (x.len + 2)) := rfl
        rw [e]
        simp [results, Try.results25, go_sem, TV.val, w0, w1, w2, w3]) rfl ⟨compV x.s (some ⟨B, 0, none⟩) (x.len + 2) (x.len + 2), rfl, (unhide HZ').1, (unhide HZ').2⟩
end Go.Proofs.Ytcdgmjpgmiehcaa

