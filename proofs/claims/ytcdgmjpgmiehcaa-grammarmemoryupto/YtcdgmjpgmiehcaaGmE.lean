import Derived.Test.YtcdgmjpgmiehcaaGmDs
/- grammar.checkBody. (Written by wip/grcheckgen.py.) -/
namespace Go.Proofs.Ytcdgmjpgmiehcaa
open Go.RowKit Go.Shelf

/-- The frame of checkBody within its loop: how many new variables there are, and what is left. -/
def CbA (v0 p : Value) (c : Int) (lf : Value) (a : Act) : Prop := ∃ f : Nat → Value, a = { tmps := #[v0, p, .int .i64 c, .int .i64 0, lf, f 5, f 6, f 7, f 8, f 9, f 10, f 11, f 12, f 13, f 14, f 15, f 16, f 17, f 18, f 19, f 20, f 21, f 22, f 23, f 24, f 25, f 26, f 27, f 28, f 29, f 30, f 31, f 32, f 33, f 34, f 35, f 36, f 37, f 38, f 39, f 40, f 41, f 42, f 43, f 44, f 45, f 46, f 47, f 48, f 49, f 50, f 51, f 52, f 53, f 54, f 55, f 56, f 57, f 58, f 59, f 60, f 61, f 62, f 63, f 64, f 65, f 66, f 67, f 68, f 69], defers := [] }
theorem cbA_of {v0 p lf u5 u6 u7 u8 u9 u10 u11 u12 u13 u14 u15 u16 u17 u18 u19 u20 u21 u22 u23 u24 u25 u26 u27 u28 u29 u30 u31 u32 u33 u34 u35 u36 u37 u38 u39 u40 u41 u42 u43 u44 u45 u46 u47 u48 u49 u50 u51 u52 u53 u54 u55 u56 u57 u58 u59 u60 u61 u62 u63 u64 u65 u66 u67 u68 u69 : Value} {c : Int} : CbA v0 p c lf { tmps := #[v0, p, .int .i64 c, .int .i64 0, lf, u5, u6, u7, u8, u9, u10, u11, u12, u13, u14, u15, u16, u17, u18, u19, u20, u21, u22, u23, u24, u25, u26, u27, u28, u29, u30, u31, u32, u33, u34, u35, u36, u37, u38, u39, u40, u41, u42, u43, u44, u45, u46, u47, u48, u49, u50, u51, u52, u53, u54, u55, u56, u57, u58, u59, u60, u61, u62, u63, u64, u65, u66, u67, u68, u69], defers := [] } := ⟨fun i => ([u5, u6, u7, u8, u9, u10, u11, u12, u13, u14, u15, u16, u17, u18, u19, u20, u21, u22, u23, u24, u25, u26, u27, u28, u29, u30, u31, u32, u33, u34, u35, u36, u37, u38, u39, u40, u41, u42, u43, u44, u45, u46, u47, u48, u49, u50, u51, u52, u53, u54, u55, u56, u57, u58, u59, u60, u61, u62, u63, u64, u65, u66, u67, u68, u69][i - 5]?).getD undef, rfl⟩
theorem Try.infoT4 : (Try.prog.info? 24).map (fun i => (i.zero, i.size, i.bytes)) = some (some (.agg #[.int .i64 0, .int .i64 0, .string ⟨#[]⟩, .slice none 0 0]), 4, 56) := by kernel_rfl
def trow (x : TV) : List Value := [.int .i64 x.k, .int .i64 x.N, .string x.s, .slice x.a x.len x.cap]
/-- Terms in a row of the call's own. -/
def StkT (B : Nat) (W : World) (v : Value) (S : List TV) : Prop := StkW 24 4 B W v (S.map trow)
theorem trow_ok (x : TV) : ∀ u ∈ trow x, u.oneCell' = true := by intro u hu; simp [trow] at hu; rcases hu with rfl | rfl | rfl | rfl <;> rfl
theorem StkT.push {B h : Nat} {W : World} {v : Value} {S : List TV} (hs : StkT B W v S) (E : List TV) (arr : Array Value) (ha : arr.toList = (E.map trow).flatten) (hh : W.heap.size = h) (hl : S.length + E.length ≤ 2199023255552) (hB : B ≤ W.heap.size) :
    ∃ v' X, (Builtin.append_ #[22, 22] 22 #[v, .slice (some ⟨h, 0, none⟩) E.length E.length]).run Try.prog (W.alloc (.cells arr 24)) = .ok v' X ∧ StkT B X v' (S ++ E) ∧ (W.alloc (.cells arr 24)).grownBy X v.ownBlock := by
  obtain ⟨i0, hi, hz0, hz1, hz2⟩ := info_parts Try.infoT4
  obtain ⟨v', X, r1, r2, r3, _⟩ := StkW.push (ty := 22) hs Try.underlying22 hi hz0 hz1 hz2 rfl (by omega) (E.map trow) arr ha (fun r hr => by obtain ⟨x, _, rfl⟩ := List.mem_map.1 hr; rfl) (fun u hu => by
    obtain ⟨r, hr, hu⟩ := List.mem_flatten.1 hu
    obtain ⟨x, _, rfl⟩ := List.mem_map.1 hr
    exact trow_ok x u hu) hh (by simp only [List.length_map]; omega) (by simp only [List.length_map]; omega) hB
  rw [List.length_map] at r1
  refine ⟨v', X, r1, ?_, r3⟩
  unfold StkT
  rw [List.map_append]
  exact r2
theorem StkT.top {B g cap : Nat} {W : World} {S : List TV} {x : TV} (h : StkT B W (.slice (some ⟨g, 0, none⟩) (S.length + 1) cap) (S ++ [x])) :
    W.cell? ⟨g, S.length * 4, none⟩ = some (.int .i64 x.k) ∧ W.cell? ⟨g, S.length * 4 + 1, none⟩ = some (.int .i64 x.N) ∧ W.cell? ⟨g, S.length * 4 + 2, none⟩ = some (.string x.s) ∧ W.cell? ⟨g, S.length * 4 + 3, none⟩ = some (.slice x.a x.len x.cap) := by
  unfold StkT at h
  rw [List.map_append, show S.length = (S.map trow).length by simp] at h
  have h0 := fun j u hu => StkW.top (e := trow x) h (j := j) (u := u) hu
  rw [List.length_map] at h0
  exact ⟨h0 0 _ rfl, h0 1 _ rfl, h0 2 _ rfl, h0 3 _ rfl⟩
theorem StkT.pop {B g cap : Nat} {W : World} {S : List TV} {x : TV} (h : StkT B W (.slice (some ⟨g, 0, none⟩) (S.length + 1) cap) (S ++ [x])) : StkT B W (.slice (some ⟨g, 0, none⟩) S.length cap) S := by
  unfold StkT at h ⊢
  rw [List.map_append, show S.length = (S.map trow).length by simp] at h
  have := StkW.pop h
  rwa [List.length_map] at this
theorem StkT.slice {B : Nat} {W : World} {v : Value} {S : List TV} {x : TV} (h : StkT B W v (S ++ [x])) : ∃ g cap cur, v = .slice (some ⟨g, 0, none⟩) (S.length + 1) cap ∧ B ≤ g ∧ g < W.heap.size ∧ S.length + 1 ≤ cap ∧ cap ≤ maxLen ∧ W.heap[g]? = some (.cells cur 24 (0, 0)) := by
  unfold StkT at h
  rw [List.map_append] at h
  have := StkW.slice h
  rwa [List.length_map] at this
theorem StkT.below {B : Nat} {W W' : World} {v : Value} {S : List TV} (h : StkT B W v S) (hb : Below W.heap.size W W') : StkT B W' v S := StkW.below h hb
theorem first_two (a b : Int) : firstE [a, b] = if a = 0 then b else a := by
  unfold firstE firstE firstE
  by_cases ha : a = 0
  · rw [if_pos ha, if_pos ha]; by_cases hb : b = 0 <;> simp [hb]
  · rw [if_neg ha, if_neg ha]
theorem first_one (a : Int) : firstE [a] = a := by
  unfold firstE firstE
  by_cases ha : a = 0 <;> simp [ha]

set_option maxRecDepth 100000 in
set_option maxHeartbeats 16000000 in
theorem gcheck_cps {n : Nat} (t : Tm n) (w : World) (hT : IsT w.heap.size w t) (ok : okT t = true) (hn : n ≤ 274877906944) (hct : cntT t ≤ 4611686018427387904) (Pst : Ending → World → Prop)
    (hyes : berr t = 0 → ∀ V, Below w.heap.size w V → Pst (.returned (.tuple #[.int .i64 (cntT t), .int .i64 0])) V)
    (hno : berr t ≠ 0 → ∀ V, Below w.heap.size w V → Pst (.returned (.tuple #[.int .i64 0, .int .i64 (berr t)])) V) :
    Calls Try.prog 22 #[t.tv.val] w fun e W' => Pst e W' := by
  obtain ⟨W1, hW1⟩ : ∃ W1, w.alloc (.cells #[.int .i64 t.tv.k, .int .i64 t.tv.N, .string t.tv.s, .slice t.tv.a t.tv.len t.tv.cap] 24) = W1 := ⟨_, rfl⟩
  have bT : BoxT W1 w.heap.size t.tv := by rw [← hW1]; exact BoxT.new w t.tv
  have g1 : Below w.heap.size w W1 := by rw [← hW1]; exact (Below.refl _ w).alloc (Nat.le_refl _) _
  have hs1 : W1.heap.size = w.heap.size + 1 := by rw [← hW1]; simp
  obtain ⟨W2, hW2⟩ : ∃ W2, W1.alloc (.cells #[.int .i64 t.tv.k, .int .i64 t.tv.N, .string t.tv.s, .slice t.tv.a t.tv.len t.tv.cap] 24) = W2 := ⟨_, rfl⟩
  have g2 : Below w.heap.size w W2 := by rw [← hW2]; exact g1.alloc (by omega) _
  have hS0 : StkT w.heap.size W2 (.slice (some ⟨w.heap.size + 1, 0, none⟩) 1 1) ([] ++ [t.tv]) := by rw [← hW2, ← hs1]; exact StkW.one (e := trow t.tv) rfl rfl (by omega)
  have H0 := hide (And.intro g2 hS0)
  have HT := hide (And.intro hT ok)
  have HY := hide (And.intro hyes hno)
  have c0 := bT.c0
  have c1 := bT.c1
  have c2 := bT.c2
  have c3 := bT.c3
  clear g1 g2 hS0 hT ok bT hyes hno
  simp only [TV.val]
  go_enter Try.func22, Try.ntmps22
  go_wp2_with fail
  try rw [hW1]
  go_wp2_with fail
  try rw [hW2]
  go_wp2_with fail
  clear hW1 hW2 c0 c1 c2 c3
  obtain ⟨p0, hp0⟩ : ∃ p0, (Value.agg #[.int .i64 t.tv.k, .int .i64 t.tv.N, .string t.tv.s, .slice t.tv.a t.tv.len t.tv.cap]) = p0 := ⟨_, rfl⟩
  obtain ⟨p1, hp1⟩ : ∃ p1, (Value.pointer (some ⟨w.heap.size, 0, none⟩)) = p1 := ⟨_, rfl⟩
  rw [hp0, hp1]
  clear hp0 hp1
  refine wp_loop_cps (fun R hR => ?_)
  have HR := hide hR
  clear hR
  -- nothing is left
  have last : ∀ (k g cp : Nat) (c : Int) (V : World) (act : Act), CbA p0 p1 c (.slice (some ⟨g, 0, none⟩) 0 cp) act → Pst (.returned (.tuple #[.int .i64 c, .int .i64 0])) V → R (k + 1) act V := by
    intro k g cp c V act hA hK
    obtain ⟨f, rfl⟩ := hA
    have HK := hide hK
    clear hK H0 HT HY
    refine (unhide HR) _ _ _ ?_
    go_wp2_with fail
    all_goals exact unhide HK
  have last0 : ∀ (k : Nat) (c : Int) (V : World) (act : Act), CbA p0 p1 c (.slice none 0 0) act → Pst (.returned (.tuple #[.int .i64 c, .int .i64 0])) V → R (k + 1) act V := by
    intro k c V act hA hK
    obtain ⟨f, rfl⟩ := hA
    have HK := hide hK
    clear hK H0 HT HY
    refine (unhide HR) _ _ _ ?_
    go_wp2_with fail
    all_goals exact unhide HK
  have key : ∀ (n' : Nat) (u : Tm n'), okT u = true → IsT w.heap.size w u → n' ≤ n → ∃ cnt : Nat, ∀ (k : Nat) (S : List TV) (c : Int) (lf : Value) (V : World) (act : Act),
      CbA p0 p1 c lf act → Below w.heap.size w V → StkT w.heap.size V lf (S ++ [u.tv]) → S.length + n' ≤ n → 0 ≤ c → c + cntT u ≤ 4611686018427387904 →
      (berr u = 0 → ∀ (lf' : Value) (V' : World) (act' : Act), CbA p0 p1 (c + cntT u) lf' act' → Below w.heap.size w V' → StkT w.heap.size V' lf' S → R k act' V') →
      (berr u ≠ 0 → ∀ V', Below w.heap.size w V' → Pst (.returned (.tuple #[.int .i64 0, .int .i64 (berr u)])) V') → R (cnt + k) act V := by
    clear H0 HT HY last last0 hct
    intro n'
    induction n' with
    | zero => intro u; exact Empty.elim u
    | succ n' ih =>
      intro u ok hT hle
      obtain ⟨x, kids⟩ := u
      have hk := ok_kids ok
      have hl := ok_len ok
      have hTk := hT
      obtain ⟨hTl, _, _, h4⟩ := hTk
      have HF : Hid (∀ V, Calls Try.prog 33 #[.agg #[.int .i64 x.k, .int .i64 x.N, .string x.s, .slice x.a x.len x.cap]] V fun e W' => e = .returned (.int .i64 (formB x)) ∧ Below V.heap.size V W') := hide fun V => form_any x V
      by_cases f2 : formB x = 2
      · obtain ⟨a, b, rfl⟩ := two_kids hT.wl (form_two f2)
        have HXL := hide (form_two f2)
        rcases h4 with h4 | ⟨B, off, ha, hBn, hcs⟩
        · cases h4
        have HA := hide ha
        clear ha
        obtain ⟨ca0, hTa⟩ := hcs 0 a rfl
        obtain ⟨cb0, hTb⟩ := hcs 1 b rfl
        obtain ⟨ca, hca⟩ := ih a (hk.2 a (by simp)) hTa (by omega)
        obtain ⟨cb, hcb⟩ := ih b (hk.2 b (by simp)) hTb (by omega)
        have ec : cntT (n := n' + 1) ((x, [a, b]) : TV × List (Tm n')) = 1 + (cntT a + cntT b) := by rw [cntT_succ, if_pos (.inl f2)]; simp
        have ee : berr (n := n' + 1) ((x, [a, b]) : TV × List (Tm n')) = if berr a = 0 then berr b else berr a := by rw [berr_succ, if_pos (.inl f2)]; exact first_two _ _
        refine ⟨ca + cb + 1, fun k S c lf V act hA gV hS hdep hc0 hcl hK hN => ?_⟩
        rw [ec] at hcl hK
        rw [ee] at hK hN
        have HC : Hid (∀ X lf' act', Below w.heap.size w X → StkT w.heap.size X lf' (S ++ [b.tv] ++ [a.tv]) → CbA p0 p1 (c + 1) lf' act' → R (ca + (cb + k)) act' X) := hide fun X lf' act' gX hSX hAX => by
          refine hca (cb + k) (S ++ [b.tv]) (c + 1) lf' X act' hAX gX hSX (by simp only [List.length_append, List.length_cons, List.length_nil]; omega) (by omega) (by omega) (fun e1 lf2 V2 act2 hA2 g2 hS2 => ?_) (fun e1 V2 g2 => ?_)
          · refine hcb k S (c + 1 + cntT a) lf2 V2 act2 hA2 g2 hS2 (by omega) (by omega) (by omega) (fun e2 lf3 V3 act3 hA3 g3 hS3 => ?_) (fun e2 V3 g3 => ?_)
            · exact hK (by rw [if_pos e1]; exact e2) lf3 V3 act3 (by rw [show c + ((1 + (cntT a + cntT b) : Nat) : Int) = c + 1 + (cntT a : Int) + (cntT b : Int) by omega]; exact hA3) g3 hS3
            · have := hN (by rw [if_pos e1]; exact e2) V3 g3
              rwa [if_pos e1] at this
          · have := hN (by rw [if_neg e1]; exact e1) V2 g2
            rwa [if_neg e1] at this
        have hcells : ∀ V', Below w.heap.size w V' → V'.cell? ⟨V.heap.size, 3, none⟩ = some (.slice x.a x.len x.cap) → V'.cell? ⟨V.heap.size, 3, none⟩ = some (.slice (some ⟨B, off, none⟩) 2 x.cap) ∧ (V'.cell? ⟨B, off, none⟩ = some (.int .i64 a.tv.k) ∧ V'.cell? ⟨B, off + 1, none⟩ = some (.int .i64 a.tv.N) ∧ V'.cell? ⟨B, off + 2, none⟩ = some (.string a.tv.s) ∧ V'.cell? ⟨B, off + 3, none⟩ = some (.slice a.tv.a a.tv.len a.tv.cap)) ∧ V'.cell? ⟨B, off + 4, none⟩ = some (.int .i64 b.tv.k) ∧ V'.cell? ⟨B, off + 4 + 1, none⟩ = some (.int .i64 b.tv.N) ∧ V'.cell? ⟨B, off + 4 + 2, none⟩ = some (.string b.tv.s) ∧ V'.cell? ⟨B, off + 4 + 3, none⟩ = some (.slice b.tv.a b.tv.len b.tv.cap) := fun V' gV' h3 => by
          have hx : x.a = some ⟨B, off, none⟩ := unhide HA
          refine ⟨by rw [h3, hx, unhide HXL], ⟨(gV'.cell (p := ⟨B, off, none⟩) hBn).trans (by simpa using ca0.1), (gV'.cell (p := ⟨B, off + 1, none⟩) hBn).trans (by simpa using ca0.2.1), (gV'.cell (p := ⟨B, off + 2, none⟩) hBn).trans (by simpa using ca0.2.2.1), (gV'.cell (p := ⟨B, off + 3, none⟩) hBn).trans (by simpa using ca0.2.2.2)⟩, (gV'.cell (p := ⟨B, off + 4, none⟩) hBn).trans (by simpa using cb0.1), (gV'.cell (p := ⟨B, off + 4 + 1, none⟩) hBn).trans (by simpa using cb0.2.1), (gV'.cell (p := ⟨B, off + 4 + 2, none⟩) hBn).trans (by simpa using cb0.2.2.1), (gV'.cell (p := ⟨B, off + 4 + 3, none⟩) hBn).trans (by simpa using cb0.2.2.2)⟩
        clear hca hcb ih hk hT hcs ca0 cb0 hTa hTb ec ee ok hle
        rw [show ca + cb + 1 + k = ca + (cb + k) + 1 by omega]
        have hcl' : c ≤ 4611686018427387904 := by omega
        clear hcl
        obtain ⟨f, rfl⟩ := hA
        obtain ⟨g, cp, cur, rfl, hgB, hgV, hcap, hcm, hgc⟩ := hS.slice
        obtain ⟨t0, t1, t2, t3⟩ := hS.top
        have hcap' : cp ≤ 9223372036854775807 := by unfold maxLen at hcm; omega
        have hPop := hide hS.pop
        obtain ⟨bx, hbx⟩ : ∃ bx, V.heap.size = bx := ⟨_, rfl⟩
        obtain ⟨V1, hV1⟩ : ∃ V1, V.alloc (.cells #[.int .i64 x.k, .int .i64 x.N, .string x.s, .slice x.a x.len x.cap] 24) = V1 := ⟨_, rfl⟩
        have bT : BoxT V1 bx x := by rw [← hV1, ← hbx]; exact BoxT.new V x
        have hV : Below V.heap.size V V1 := by rw [← hV1]; exact (Below.refl _ V).alloc (Nat.le_refl _) _
        have hs1 : V1.heap.size = bx + 1 := by rw [← hV1, ← hbx]; simp
        have HBT := hide bT
        have HV := hide hV
        have d0 := bT.c0
        have d1 := bT.c1
        have d2 := bT.c2
        have d3 := bT.c3
        have hsw := gV.size
        clear bT hV hS hcm
        simp only [Tm.tv] at t0 t1 t2 t3
        rw [hbx] at hcells
        refine (unhide HR) _ _ _ ?_
        go_wp2_with fail
        try rw [hV1]
        try rw [hbx]
        go_wp2_with fail
        refine ((unhide HF) V1).mono ?_
        rintro e V2 ⟨rfl, h2⟩
        have bT := (unhide HBT).below h2 (unhide HBT).lt
        have hs2 := h2.size
        have hVV : Below V.heap.size V V2 := (unhide HV).trans (h2.mono (unhide HV).size)
        have gV2 : Below w.heap.size w V2 := gV.trans (hVV.mono hsw)
        clear t0 t1 t2 t3 d0 d1 d2 d3 HF HBT HV h2
        have d0 := bT.c0
        have d1 := bT.c1
        have d2 := bT.c2
        have d3 := bT.c3
        rw [f2]
        clear f2
        go_wp2_with fail
        have HPop := hide ((unhide hPop).below hVV)
        obtain ⟨D1, hD1⟩ : ∃ D1, V2.drew = D1 := ⟨_, rfl⟩
        have hDB : Below V2.heap.size V2 D1 := by rw [← hD1]; exact (Below.refl _ V2).drew
        have hDs : D1.heap.size = V2.heap.size := by rw [← hD1]; rfl
        have gD : Below w.heap.size w D1 := gV2.trans (hDB.mono gV2.size)
        have bD := bT.below hDB (by omega)
        obtain ⟨lf', X, hr, hXS, hgr⟩ := ((unhide HPop).below hDB).push (h := V2.heap.size) [b.tv, a.tv] #[.int .i64 b.tv.k, .int .i64 b.tv.N, .string b.tv.s, .slice b.tv.a b.tv.len b.tv.cap, .int .i64 a.tv.k, .int .i64 a.tv.N, .string a.tv.s, .slice a.tv.a a.tv.len a.tv.cap] rfl hDs (by simp only [List.length_cons, List.length_nil]; omega) (by omega)
        have hA1 : Below D1.heap.size D1 (D1.alloc (.cells #[.int .i64 b.tv.k, .int .i64 b.tv.N, .string b.tv.s, .slice b.tv.a b.tv.len b.tv.cap, .int .i64 a.tv.k, .int .i64 a.tv.N, .string a.tv.s, .slice a.tv.a a.tv.len a.tv.cap] 24)) := (Below.refl _ D1).alloc (Nat.le_refl _) _
        have gA := gD.trans (hA1.mono gD.size)
        have gX : Below w.heap.size w X := gA.grown hgr gA.size (fun k e => by simp only [Value.ownBlock, Option.some.injEq] at e; omega)
        have bA := bD.below hA1 (by omega)
        have bX : BoxT X bx x := (hgr.block bx bA.lt (by simp only [Value.ownBlock, ne_eq, Option.some.injEq]; omega)).trans bA
        have kD := hcells D1 gD bD.c3
        have k1 := hcells _ gA bA.c3
        have k2 := hcells X gX bX.c3
        have HZ := hide (fun act' hA' => (unhide HC) X lf' act' gX (by simpa using hXS) hA')
        clear hXS hgr hA1 gA gX bA bX bD gD hDB bT HC hPop HPop hcells hVV gV2 gV d0 d1 d2 hN hK
        refine wp_region_noPanic ?_
        refine wp_region_held_drew (S := fun w' => w'.cell? ⟨bx, 3, none⟩ = some (.slice (some ⟨B, off, none⟩) 2 x.cap) ∧ (w'.cell? ⟨B, off, none⟩ = some (.int .i64 a.tv.k) ∧ w'.cell? ⟨B, off + 1, none⟩ = some (.int .i64 a.tv.N) ∧ w'.cell? ⟨B, off + 2, none⟩ = some (.string a.tv.s) ∧ w'.cell? ⟨B, off + 3, none⟩ = some (.slice a.tv.a a.tv.len a.tv.cap)) ∧ w'.cell? ⟨B, off + 4, none⟩ = some (.int .i64 b.tv.k) ∧ w'.cell? ⟨B, off + 4 + 1, none⟩ = some (.int .i64 b.tv.N) ∧ w'.cell? ⟨B, off + 4 + 2, none⟩ = some (.string b.tv.s) ∧ w'.cell? ⟨B, off + 4 + 3, none⟩ = some (.slice b.tv.a b.tv.len b.tv.cap)) (by kernel_rfl) ?_ (fun hHeld => ?_)
        · rw [hD1]; exact kD
        rw [hD1] at hHeld ⊢
        clear hD1
        refine tk 0 rfl hHeld ?_
        refine tk 1 rfl hHeld ?_
        refine tk 2 rfl hHeld ?_
        refine tk 3 rfl hHeld ?_
        refine tk 4 rfl hHeld ?_
        refine tk 5 rfl hHeld ?_
        refine tk 6 rfl hHeld ?_
        refine tk 7 rfl hHeld ?_
        refine tk 8 rfl hHeld ?_
        refine rd 9 rfl fun K hK => ?_
        have hHold := hHeld
        clear hHeld
        go_simp
        refine hK.out _ _ ?_ (fun hHeld => ?_)
        · ((try dsimp only); exact k1)
        clear hK K hHold
        try simp only [pu]
        refine rd 10 rfl fun K hK => ?_
        have hHold := hHeld
        clear hHeld
        rw [if_pos (by rfl)]
        refine wp_append_row _ _ _ rfl rfl rfl hr ?_
        refine hK.out _ _ ?_ (fun hHeld => ?_)
        · ((try dsimp only); exact k2)
        clear hK K hHold
        try simp only [pu]
        refine tk 11 rfl hHeld ?_
        refine wpAnyH_done (by kernel_rfl) ?_ _
        refine NoPanic.normal ?_
        clear hHeld
        go_wp2_with fail
        exact (unhide HZ) _ cbA_of
      by_cases f3 : formB x = 3
      · obtain ⟨a, b, rfl⟩ := two_kids hT.wl (form_three f3)
        have HXL := hide (form_three f3)
        rcases h4 with h4 | ⟨B, off, ha, hBn, hcs⟩
        · cases h4
        have HA := hide ha
        clear ha
        obtain ⟨ca0, hTa⟩ := hcs 0 a rfl
        obtain ⟨cb0, hTb⟩ := hcs 1 b rfl
        obtain ⟨ca, hca⟩ := ih a (hk.2 a (by simp)) hTa (by omega)
        obtain ⟨cb, hcb⟩ := ih b (hk.2 b (by simp)) hTb (by omega)
        have ec : cntT (n := n' + 1) ((x, [a, b]) : TV × List (Tm n')) = cntT a + cntT b := by rw [cntT_succ, if_neg (by omega), if_pos f3]; simp
        have ee : berr (n := n' + 1) ((x, [a, b]) : TV × List (Tm n')) = if berr a = 0 then berr b else berr a := by rw [berr_succ, if_pos (.inr (.inl f3))]; exact first_two _ _
        refine ⟨ca + cb + 1, fun k S c lf V act hA gV hS hdep hc0 hcl hK hN => ?_⟩
        rw [ec] at hcl hK
        rw [ee] at hK hN
        have HC : Hid (∀ X lf' act', Below w.heap.size w X → StkT w.heap.size X lf' (S ++ [b.tv] ++ [a.tv]) → CbA p0 p1 c lf' act' → R (ca + (cb + k)) act' X) := hide fun X lf' act' gX hSX hAX => by
          refine hca (cb + k) (S ++ [b.tv]) c lf' X act' hAX gX hSX (by simp only [List.length_append, List.length_cons, List.length_nil]; omega) (by omega) (by omega) (fun e1 lf2 V2 act2 hA2 g2 hS2 => ?_) (fun e1 V2 g2 => ?_)
          · refine hcb k S (c + cntT a) lf2 V2 act2 hA2 g2 hS2 (by omega) (by omega) (by omega) (fun e2 lf3 V3 act3 hA3 g3 hS3 => ?_) (fun e2 V3 g3 => ?_)
            · exact hK (by rw [if_pos e1]; exact e2) lf3 V3 act3 (by rw [show c + ((cntT a + cntT b : Nat) : Int) = c + (cntT a : Int) + (cntT b : Int) by omega]; exact hA3) g3 hS3
            · have := hN (by rw [if_pos e1]; exact e2) V3 g3
              rwa [if_pos e1] at this
          · have := hN (by rw [if_neg e1]; exact e1) V2 g2
            rwa [if_neg e1] at this
        have hcells : ∀ V', Below w.heap.size w V' → V'.cell? ⟨V.heap.size, 3, none⟩ = some (.slice x.a x.len x.cap) → V'.cell? ⟨V.heap.size, 3, none⟩ = some (.slice (some ⟨B, off, none⟩) 2 x.cap) ∧ (V'.cell? ⟨B, off, none⟩ = some (.int .i64 a.tv.k) ∧ V'.cell? ⟨B, off + 1, none⟩ = some (.int .i64 a.tv.N) ∧ V'.cell? ⟨B, off + 2, none⟩ = some (.string a.tv.s) ∧ V'.cell? ⟨B, off + 3, none⟩ = some (.slice a.tv.a a.tv.len a.tv.cap)) ∧ V'.cell? ⟨B, off + 4, none⟩ = some (.int .i64 b.tv.k) ∧ V'.cell? ⟨B, off + 4 + 1, none⟩ = some (.int .i64 b.tv.N) ∧ V'.cell? ⟨B, off + 4 + 2, none⟩ = some (.string b.tv.s) ∧ V'.cell? ⟨B, off + 4 + 3, none⟩ = some (.slice b.tv.a b.tv.len b.tv.cap) := fun V' gV' h3 => by
          have hx : x.a = some ⟨B, off, none⟩ := unhide HA
          refine ⟨by rw [h3, hx, unhide HXL], ⟨(gV'.cell (p := ⟨B, off, none⟩) hBn).trans (by simpa using ca0.1), (gV'.cell (p := ⟨B, off + 1, none⟩) hBn).trans (by simpa using ca0.2.1), (gV'.cell (p := ⟨B, off + 2, none⟩) hBn).trans (by simpa using ca0.2.2.1), (gV'.cell (p := ⟨B, off + 3, none⟩) hBn).trans (by simpa using ca0.2.2.2)⟩, (gV'.cell (p := ⟨B, off + 4, none⟩) hBn).trans (by simpa using cb0.1), (gV'.cell (p := ⟨B, off + 4 + 1, none⟩) hBn).trans (by simpa using cb0.2.1), (gV'.cell (p := ⟨B, off + 4 + 2, none⟩) hBn).trans (by simpa using cb0.2.2.1), (gV'.cell (p := ⟨B, off + 4 + 3, none⟩) hBn).trans (by simpa using cb0.2.2.2)⟩
        clear hca hcb ih hk hT hcs ca0 cb0 hTa hTb ec ee ok hle
        rw [show ca + cb + 1 + k = ca + (cb + k) + 1 by omega]
        have hcl' : c ≤ 4611686018427387904 := by omega
        clear hcl
        obtain ⟨f, rfl⟩ := hA
        obtain ⟨g, cp, cur, rfl, hgB, hgV, hcap, hcm, hgc⟩ := hS.slice
        obtain ⟨t0, t1, t2, t3⟩ := hS.top
        have hcap' : cp ≤ 9223372036854775807 := by unfold maxLen at hcm; omega
        have hPop := hide hS.pop
        obtain ⟨bx, hbx⟩ : ∃ bx, V.heap.size = bx := ⟨_, rfl⟩
        obtain ⟨V1, hV1⟩ : ∃ V1, V.alloc (.cells #[.int .i64 x.k, .int .i64 x.N, .string x.s, .slice x.a x.len x.cap] 24) = V1 := ⟨_, rfl⟩
        have bT : BoxT V1 bx x := by rw [← hV1, ← hbx]; exact BoxT.new V x
        have hV : Below V.heap.size V V1 := by rw [← hV1]; exact (Below.refl _ V).alloc (Nat.le_refl _) _
        have hs1 : V1.heap.size = bx + 1 := by rw [← hV1, ← hbx]; simp
        have HBT := hide bT
        have HV := hide hV
        have d0 := bT.c0
        have d1 := bT.c1
        have d2 := bT.c2
        have d3 := bT.c3
        have hsw := gV.size
        clear bT hV hS hcm
        simp only [Tm.tv] at t0 t1 t2 t3
        rw [hbx] at hcells
        refine (unhide HR) _ _ _ ?_
        go_wp2_with fail
        try rw [hV1]
        try rw [hbx]
        go_wp2_with fail
        refine ((unhide HF) V1).mono ?_
        rintro e V2 ⟨rfl, h2⟩
        have bT := (unhide HBT).below h2 (unhide HBT).lt
        have hs2 := h2.size
        have hVV : Below V.heap.size V V2 := (unhide HV).trans (h2.mono (unhide HV).size)
        have gV2 : Below w.heap.size w V2 := gV.trans (hVV.mono hsw)
        clear t0 t1 t2 t3 d0 d1 d2 d3 HF HBT HV h2
        have d0 := bT.c0
        have d1 := bT.c1
        have d2 := bT.c2
        have d3 := bT.c3
        rw [f3]
        clear f2 f3
        go_wp2_with fail
        have HPop := hide ((unhide hPop).below hVV)
        obtain ⟨D1, hD1⟩ : ∃ D1, V2.drew = D1 := ⟨_, rfl⟩
        have hDB : Below V2.heap.size V2 D1 := by rw [← hD1]; exact (Below.refl _ V2).drew
        have hDs : D1.heap.size = V2.heap.size := by rw [← hD1]; rfl
        have gD : Below w.heap.size w D1 := gV2.trans (hDB.mono gV2.size)
        have bD := bT.below hDB (by omega)
        obtain ⟨lf', X, hr, hXS, hgr⟩ := ((unhide HPop).below hDB).push (h := V2.heap.size) [b.tv, a.tv] #[.int .i64 b.tv.k, .int .i64 b.tv.N, .string b.tv.s, .slice b.tv.a b.tv.len b.tv.cap, .int .i64 a.tv.k, .int .i64 a.tv.N, .string a.tv.s, .slice a.tv.a a.tv.len a.tv.cap] rfl hDs (by simp only [List.length_cons, List.length_nil]; omega) (by omega)
        have hA1 : Below D1.heap.size D1 (D1.alloc (.cells #[.int .i64 b.tv.k, .int .i64 b.tv.N, .string b.tv.s, .slice b.tv.a b.tv.len b.tv.cap, .int .i64 a.tv.k, .int .i64 a.tv.N, .string a.tv.s, .slice a.tv.a a.tv.len a.tv.cap] 24)) := (Below.refl _ D1).alloc (Nat.le_refl _) _
        have gA := gD.trans (hA1.mono gD.size)
        have gX : Below w.heap.size w X := gA.grown hgr gA.size (fun k e => by simp only [Value.ownBlock, Option.some.injEq] at e; omega)
        have bA := bD.below hA1 (by omega)
        have bX : BoxT X bx x := (hgr.block bx bA.lt (by simp only [Value.ownBlock, ne_eq, Option.some.injEq]; omega)).trans bA
        have kD := hcells D1 gD bD.c3
        have k1 := hcells _ gA bA.c3
        have k2 := hcells X gX bX.c3
        have HZ := hide (fun act' hA' => (unhide HC) X lf' act' gX (by simpa using hXS) hA')
        clear hXS hgr hA1 gA gX bA bX bD gD hDB bT HC hPop HPop hcells hVV gV2 gV d0 d1 d2 hN hK
        refine wp_region_noPanic ?_
        refine wp_region_held_drew (S := fun w' => w'.cell? ⟨bx, 3, none⟩ = some (.slice (some ⟨B, off, none⟩) 2 x.cap) ∧ (w'.cell? ⟨B, off, none⟩ = some (.int .i64 a.tv.k) ∧ w'.cell? ⟨B, off + 1, none⟩ = some (.int .i64 a.tv.N) ∧ w'.cell? ⟨B, off + 2, none⟩ = some (.string a.tv.s) ∧ w'.cell? ⟨B, off + 3, none⟩ = some (.slice a.tv.a a.tv.len a.tv.cap)) ∧ w'.cell? ⟨B, off + 4, none⟩ = some (.int .i64 b.tv.k) ∧ w'.cell? ⟨B, off + 4 + 1, none⟩ = some (.int .i64 b.tv.N) ∧ w'.cell? ⟨B, off + 4 + 2, none⟩ = some (.string b.tv.s) ∧ w'.cell? ⟨B, off + 4 + 3, none⟩ = some (.slice b.tv.a b.tv.len b.tv.cap)) (by kernel_rfl) ?_ (fun hHeld => ?_)
        · rw [hD1]; exact kD
        rw [hD1] at hHeld ⊢
        clear hD1
        refine tk 0 rfl hHeld ?_
        refine tk 1 rfl hHeld ?_
        refine tk 2 rfl hHeld ?_
        refine tk 3 rfl hHeld ?_
        refine tk 4 rfl hHeld ?_
        refine tk 5 rfl hHeld ?_
        refine tk 6 rfl hHeld ?_
        refine tk 7 rfl hHeld ?_
        refine tk 8 rfl hHeld ?_
        refine rd 9 rfl fun K hK => ?_
        have hHold := hHeld
        clear hHeld
        go_simp
        refine hK.out _ _ ?_ (fun hHeld => ?_)
        · ((try dsimp only); exact k1)
        clear hK K hHold
        try simp only [pu]
        refine rd 10 rfl fun K hK => ?_
        have hHold := hHeld
        clear hHeld
        rw [if_pos (by rfl)]
        refine wp_append_row _ _ _ rfl rfl rfl hr ?_
        refine hK.out _ _ ?_ (fun hHeld => ?_)
        · ((try dsimp only); exact k2)
        clear hK K hHold
        try simp only [pu]
        refine tk 11 rfl hHeld ?_
        refine wpAnyH_done (by kernel_rfl) ?_ _
        refine NoPanic.normal ?_
        clear hHeld
        go_wp2_with fail
        exact (unhide HZ) _ cbA_of
      by_cases f4 : formB x = 4
      · obtain ⟨a, rfl⟩ := one_kid hT.wl (form_four f4)
        have HXL := hide (form_four f4)
        rcases h4 with h4 | ⟨B, off, ha, hBn, hcs⟩
        · cases h4
        have HA := hide ha
        clear ha
        obtain ⟨ca0, hTa⟩ := hcs 0 a rfl
        obtain ⟨ca, hca⟩ := ih a (hk.2 a (by simp)) hTa (by omega)
        have ec : cntT (n := n' + 1) ((x, [a]) : TV × List (Tm n')) = 1 + cntT a := by rw [cntT_succ, if_pos (.inr f4)]; simp
        have ee : berr (n := n' + 1) ((x, [a]) : TV × List (Tm n')) = berr a := by rw [berr_succ, if_pos (.inr (.inr f4))]; exact first_one _
        refine ⟨ca + 1, fun k S c lf V act hA gV hS hdep hc0 hcl hK hN => ?_⟩
        rw [ec] at hcl hK
        rw [ee] at hK hN
        have HC : Hid (∀ X lf' act', Below w.heap.size w X → StkT w.heap.size X lf' (S ++ [a.tv]) → CbA p0 p1 (c + 1) lf' act' → R (ca + k) act' X) := hide fun X lf' act' gX hSX hAX => by
          refine hca k S (c + 1) lf' X act' hAX gX hSX (by omega) (by omega) (by omega) (fun e1 lf2 V2 act2 hA2 g2 hS2 => ?_) hN
          exact hK e1 lf2 V2 act2 (by rw [show c + ((1 + cntT a : Nat) : Int) = c + 1 + (cntT a : Int) by omega]; exact hA2) g2 hS2
        have hcells : ∀ V', Below w.heap.size w V' → V'.cell? ⟨V.heap.size, 3, none⟩ = some (.slice x.a x.len x.cap) → V'.cell? ⟨V.heap.size, 3, none⟩ = some (.slice (some ⟨B, off, none⟩) 1 x.cap) ∧ V'.cell? ⟨B, off, none⟩ = some (.int .i64 a.tv.k) ∧ V'.cell? ⟨B, off + 1, none⟩ = some (.int .i64 a.tv.N) ∧ V'.cell? ⟨B, off + 2, none⟩ = some (.string a.tv.s) ∧ V'.cell? ⟨B, off + 3, none⟩ = some (.slice a.tv.a a.tv.len a.tv.cap) := fun V' gV' h3 => by
          have hx : x.a = some ⟨B, off, none⟩ := unhide HA
          exact ⟨by rw [h3, hx, unhide HXL], (gV'.cell (p := ⟨B, off, none⟩) hBn).trans (by simpa using ca0.1), (gV'.cell (p := ⟨B, off + 1, none⟩) hBn).trans (by simpa using ca0.2.1), (gV'.cell (p := ⟨B, off + 2, none⟩) hBn).trans (by simpa using ca0.2.2.1), (gV'.cell (p := ⟨B, off + 3, none⟩) hBn).trans (by simpa using ca0.2.2.2)⟩
        clear hca ih hk hT hcs ca0 hTa ec ee ok hle
        rw [show ca + 1 + k = ca + k + 1 by omega]
        have hcl' : c ≤ 4611686018427387904 := by omega
        clear hcl
        obtain ⟨f, rfl⟩ := hA
        obtain ⟨g, cp, cur, rfl, hgB, hgV, hcap, hcm, hgc⟩ := hS.slice
        obtain ⟨t0, t1, t2, t3⟩ := hS.top
        have hcap' : cp ≤ 9223372036854775807 := by unfold maxLen at hcm; omega
        have hPop := hide hS.pop
        obtain ⟨bx, hbx⟩ : ∃ bx, V.heap.size = bx := ⟨_, rfl⟩
        obtain ⟨V1, hV1⟩ : ∃ V1, V.alloc (.cells #[.int .i64 x.k, .int .i64 x.N, .string x.s, .slice x.a x.len x.cap] 24) = V1 := ⟨_, rfl⟩
        have bT : BoxT V1 bx x := by rw [← hV1, ← hbx]; exact BoxT.new V x
        have hV : Below V.heap.size V V1 := by rw [← hV1]; exact (Below.refl _ V).alloc (Nat.le_refl _) _
        have hs1 : V1.heap.size = bx + 1 := by rw [← hV1, ← hbx]; simp
        have HBT := hide bT
        have HV := hide hV
        have d0 := bT.c0
        have d1 := bT.c1
        have d2 := bT.c2
        have d3 := bT.c3
        have hsw := gV.size
        clear bT hV hS hcm
        simp only [Tm.tv] at t0 t1 t2 t3
        rw [hbx] at hcells
        refine (unhide HR) _ _ _ ?_
        go_wp2_with fail
        try rw [hV1]
        try rw [hbx]
        go_wp2_with fail
        refine ((unhide HF) V1).mono ?_
        rintro e V2 ⟨rfl, h2⟩
        have bT := (unhide HBT).below h2 (unhide HBT).lt
        have hs2 := h2.size
        have hVV : Below V.heap.size V V2 := (unhide HV).trans (h2.mono (unhide HV).size)
        have gV2 : Below w.heap.size w V2 := gV.trans (hVV.mono hsw)
        clear t0 t1 t2 t3 d0 d1 d2 d3 HF HBT HV h2
        have d0 := bT.c0
        have d1 := bT.c1
        have d2 := bT.c2
        have d3 := bT.c3
        rw [f4]
        clear f2 f3 f4
        have HPop := hide ((unhide hPop).below hVV)
        obtain ⟨lf', X, hr, hXS, hgr⟩ := (unhide HPop).push (h := V2.heap.size) [a.tv] #[.int .i64 a.tv.k, .int .i64 a.tv.N, .string a.tv.s, .slice a.tv.a a.tv.len a.tv.cap] rfl rfl (by simp only [List.length_cons, List.length_nil]; omega) (by omega)
        have gA : Below w.heap.size w (V2.alloc (.cells #[.int .i64 a.tv.k, .int .i64 a.tv.N, .string a.tv.s, .slice a.tv.a a.tv.len a.tv.cap] 24)) := gV2.alloc gV2.size _
        have gX : Below w.heap.size w X := gA.grown hgr gA.size (fun k e => by simp only [Value.ownBlock, Option.some.injEq] at e; omega)
        obtain ⟨d3', q0, q1, q2, q3⟩ := hcells V2 gV2 bT.c3
        have HZ := hide (fun act' hA' => (unhide HC) X lf' act' gX (by simpa using hXS) hA')
        simp only [List.length_cons, List.length_nil, Nat.zero_add] at hr
        clear hXS hgr gA gX bT HC hPop HPop hcells hVV gV2 gV d0 d1 d2 d3 hN hK
        go_wp2_with (at_builtin; go_must (refine wpList_append_run _ rfl _ _ _ _ rfl hr ?_))
        exact (unhide HZ) _ cbA_of
      have nf : ¬ (formB x = 2 ∨ formB x = 3 ∨ formB x = 4) := by omega
      have ec : cntT (n := n' + 1) ((x, kids) : TV × List (Tm n')) = 0 := by rw [cntT_succ, if_neg (by omega), if_neg f3]
      have ee : berr (n := n' + 1) ((x, kids) : TV × List (Tm n')) = partE (n := n') ((x, kids) : TV × List (Tm n')) := by rw [berr_succ, if_neg nf]
      have HP : Hid (∀ V, Below w.heap.size w V → Calls Try.prog 34 #[.agg #[.int .i64 x.k, .int .i64 x.N, .string x.s, .slice x.a x.len x.cap]] V fun e W' => e = .returned (.int .i64 (partE (n := n') ((x, kids) : TV × List (Tm n')))) ∧ Below V.heap.size V W') := hide fun V hV => gpart_any (n := n') ((x, kids) : TV × List (Tm n')) V ((hT.below hV).mono hV.size) ok (by omega)
      refine ⟨1, fun k S c lf V act hA gV hS hdep hc0 hcl hK hN => ?_⟩
      rw [ec] at hK
      rw [ee] at hK hN
      have HK : Hid (partE (n := n') ((x, kids) : TV × List (Tm n')) = 0 → ∀ (lf' : Value) (V' : World) (act' : Act), CbA p0 p1 c lf' act' → Below w.heap.size w V' → StkT w.heap.size V' lf' S → R k act' V') := hide fun e lf' V' act' hA' g' hS' => hK e lf' V' act' (by simpa using hA') g' hS'
      have HN := hide hN
      clear hK hN ih hk hT ec ee ok hle hcl h4 hTl
      rw [Nat.add_comm 1 k]
      obtain ⟨f, rfl⟩ := hA
      obtain ⟨g, cp, cur, rfl, hgB, hgV, hcap, hcm, hgc⟩ := hS.slice
      obtain ⟨t0, t1, t2, t3⟩ := hS.top
      have hcap' : cp ≤ 9223372036854775807 := by unfold maxLen at hcm; omega
      have hPop := hide hS.pop
      obtain ⟨bx, hbx⟩ : ∃ bx, V.heap.size = bx := ⟨_, rfl⟩
      obtain ⟨V1, hV1⟩ : ∃ V1, V.alloc (.cells #[.int .i64 x.k, .int .i64 x.N, .string x.s, .slice x.a x.len x.cap] 24) = V1 := ⟨_, rfl⟩
      have bT : BoxT V1 bx x := by rw [← hV1, ← hbx]; exact BoxT.new V x
      have hV : Below V.heap.size V V1 := by rw [← hV1]; exact (Below.refl _ V).alloc (Nat.le_refl _) _
      have hs1 : V1.heap.size = bx + 1 := by rw [← hV1, ← hbx]; simp
      have HBT := hide bT
      have HV := hide hV
      have d0 := bT.c0
      have d1 := bT.c1
      have d2 := bT.c2
      have d3 := bT.c3
      have hsw := gV.size
      clear bT hV hS hcm
      simp only [Tm.tv] at t0 t1 t2 t3
      refine (unhide HR) _ _ _ ?_
      go_wp2_with fail
      try rw [hV1]
      try rw [hbx]
      go_wp2_with fail
      refine ((unhide HF) V1).mono ?_
      rintro e V2 ⟨rfl, h2⟩
      have bT := (unhide HBT).below h2 (unhide HBT).lt
      have hs2 := h2.size
      have hVV : Below V.heap.size V V2 := (unhide HV).trans (h2.mono (unhide HV).size)
      have gV2 : Below w.heap.size w V2 := gV.trans (hVV.mono hsw)
      clear t0 t1 t2 t3 d0 d1 d2 d3 HF HBT HV h2
      have d0 := bT.c0
      have d1 := bT.c1
      have d2 := bT.c2
      have d3 := bT.c3
      have e2 : (formB x == 2) = false := by simp [f2]
      have e3 : (formB x == 3) = false := by simp [f3]
      have e4 : (formB x == 4) = false := by simp [f4]
      clear f2 f3 f4 nf
      have HPop := hide ((unhide hPop).below hVV)
      have HG := hide gV2
      clear hPop hVV gV2 gV bT
      generalize formB x = fo at *
      go_wp2_with fail
      refine ((unhide HP) V2 (unhide HG)).mono ?_
      rintro e V3 ⟨rfl, h3⟩
      have HG3 := hide ((unhide HG).trans (h3.mono (unhide HG).size))
      have HPop3 := hide ((unhide HPop).below h3)
      clear h3 HP HPop
      generalize partE (n := n') ((x, kids) : TV × List (Tm n')) = pe at *
      by_cases hp : pe = 0
      · subst hp
        clear HN
        go_wp2_with fail
        all_goals exact (unhide HK) (by trivial) _ _ _ cbA_of (unhide HG3) (unhide HPop3)
      · have HE := hide ((unhide HN) hp V3 (unhide HG3))
        have hp' : (pe != 0) = true := by simp [hp]
        clear HK HN hp
        go_wp2_with fail
        all_goals exact unhide HE
  obtain ⟨cnt, hcnt⟩ := key n t (unhide HT).2 (unhide HT).1 (Nat.le_refl _)
  refine ⟨cnt + 1, hcnt 1 [] 0 _ W2 _ cbA_of (unhide H0).1 (unhide H0).2 (by simp) (by omega) (by omega) (fun e lf' V' act' hA' g' hS' => ?_) (fun e V' g' => (unhide HY).2 e V' g')⟩
  have hA2 := hA'
  rw [show (0 : Int) + (cntT t : Int) = (cntT t : Int) by omega] at hA2
  rcases hS'.2.2 with ⟨h0, _⟩ | ⟨g, cp, cur, h0, _⟩
  · rw [h0] at hA2
    exact last0 0 _ V' act' hA2 ((unhide HY).1 e V' g')
  · rw [h0] at hA2
    exact last 0 g cp _ V' act' hA2 ((unhide HY).1 e V' g')
/-- checkBody answers the first error of a body, or how many new variables its goal will have. -/
theorem gcheck_any {n : Nat} (t : Tm n) (w : World) (hT : IsT w.heap.size w t) (ok : okT t = true) (hn : n ≤ 274877906944) (hct : cntT t ≤ 4611686018427387904) :
    Calls Try.prog 22 #[t.tv.val] w fun e W' => e = .returned (.tuple #[.int .i64 (if berr t = 0 then cntT t else 0), .int .i64 (berr t)]) ∧ Below w.heap.size w W' :=
  gcheck_cps t w hT ok hn hct _ (fun h V hV => ⟨by rw [if_pos h, h], hV⟩) (fun h V hV => ⟨by rw [if_neg h], hV⟩)
end Go.Proofs.Ytcdgmjpgmiehcaa

