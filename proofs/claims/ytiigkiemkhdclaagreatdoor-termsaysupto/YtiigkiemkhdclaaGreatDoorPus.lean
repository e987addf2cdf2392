import Derived.Test.YtiigkiemkhdclaaGreatDoorSws
import Derived.Test.YtiigkiemkhdclaaGreatDoorPts
import Derived.Test.YtiigkiemkhdclaaGreatDoorGes
/- The contract of hornref.Put: another term at a path (putC). -/
namespace Go.Proofs.YtiigkiemkhdclaaGreatDoor
open Go.RowKit Go.Shelf Go.Maps

/-- What stands in a row where the q-th gives way. -/
def putL {n : Nat} (q : Nat) (f : Tm n → List Nd) (kids : List (Tm n)) : List Nd := kids.zipIdx.flatMap fun p => if p.2 = q then f p.1 else code p.1
/-- The code of a term with another one at a path. -/
def putC : List Int → {n : Nat} → Tm n → List Nd → List Nd
  | [], _, _, c => c
  | _ :: _, 0, t, _ => Empty.elim t
  | k :: r, _ + 1, t, c => t.tv.nd :: putL k.toNat (fun u => putC r u c) t.kids
theorem zip_take {n : Nat} {g : Tm n × Nat → List Nd} {kids : List (Tm n)} {j : Nat} {u : Tm n} (h : kids[j]? = some u) : (kids.zipIdx.take (j + 1)).flatMap g = (kids.zipIdx.take j).flatMap g ++ g (u, j) := by
  obtain ⟨hj, rfl⟩ := List.getElem?_eq_some_iff.1 h
  rw [List.take_succ_eq_append_getElem (by simpa using hj), List.flatMap_append, List.flatMap_cons, List.flatMap_nil, List.append_nil]
  simp
/-- What Put answers. -/
def PutSays (D ns : Nat) (W : World) (c : List Nd) (e : Ending) (W' : World) : Prop := ∃ x : TV, e = .returned x.val ∧ Below W.heap.size W W' ∧ HoldsS D (Mix ns W.heap.size) W' x.val c

set_option maxRecDepth 100000 in
set_option maxHeartbeats 2000000 in
theorem rput_nil {n d ns : Nat} (t : Tm n) (u : Tm d) (a : Option Addr) (cap : Nat) (W : World) (hu : IsT ns W u) (hns : ns ≤ W.heap.size) :
    Calls Tryz.prog 50 #[t.tv.val, .slice a 0 cap, u.tv.val] W (PutSays d ns W (code u)) := by
  obtain ⟨W3, hW3, hB3, hba, hbb, hbz, hsz⟩ := three_z W t.tv u.tv
  have d0 := hbb.c0
  have d1 := hbb.c1
  have d2 := hbb.c2
  have d3 := hbb.c3
  obtain ⟨⟨z0, z1, z2, z3⟩, y0, y1, y2, y3⟩ := zbox_kept hbz
  have hu3 : IsT ns W3 u := hu.below (hB3.mono hns)
  have hfin : HoldsS d (Mix ns W.heap.size) (set4 W3 (W.heap.size + 2) 0 u.tv) u.tv.val (code u) := by
    have hs : ns ≤ W3.heap.size := Nat.le_trans hns hB3.size
    have h1 : IsT ns (set4 W3 (W.heap.size + 2) 0 u.tv) u := hu3.fromS (fun b hb => set4_other _ _ 0 u.tv (by omega)) hu3.blk
    exact (holdsS_of (h1.mono (by rw [set4_size]; exact hs)) h1.blk).mono (Nat.le_refl _) (fun b hb => .inl hb)
  have hbf : Below W.heap.size W (set4 W3 (W.heap.size + 2) 0 u.tv) := set4_below hB3 (by omega) 0 _
  have HF := hide hfin
  have HBF := hide hbf
  clear hfin hbf hu hu3 hba hbb hB3 hbz hsz
  simp only [TV.val]
  go_enter Tryz.func50, Tryz.ntmps50
  go_wp2_with fail
  exact bodyPost_ret (v := u.tv.val) (by simp [results, Tryz.results50, go_sem, TV.val, z0, z1, z2, z3]) rfl ⟨u.tv, rfl, unhide HBF, unhide HF⟩

set_option maxRecDepth 100000 in
set_option maxHeartbeats 4000000 in
theorem rput_comp {n d ns D q : Nat} (u : Tm d) (f : Tm n → List Nd) (tk tN : Int) (ts : ByteArray) (ta : Option Addr) (tl tc pb off0 len cap : Nat) (kids : List (Tm n)) (W : World) (A : Option Addr) (hA : (if cap = 1 then some (⟨pb, off0, none⟩ : Addr) else some ⟨pb, off0 + 1, none⟩) = A)
    (hz : ∀ (z : Tm n) (W2 : World), kids[q]? = some z → Below W.heap.size W W2 → Calls Tryz.prog 50 #[z.tv.val, .slice A (len - 1) (cap - 1), u.tv.val] W2 (PutSays D ns W2 (f z)))
    (hpb : pb < W.heap.size) (hp0 : W.cell? ⟨pb, off0, none⟩ = some (.int .i64 (q : Nat))) (hlen1 : 1 ≤ len) (_hcap : len ≤ cap) (hD : n ≤ D)
    (hu : IsT ns W u) (hns : ns ≤ W.heap.size) (hlen : tl = kids.length) (hl50 : tl ≤ 50) (hs : ts.size ≤ 9223372036854775807) (hq : q < tl)
    (hkids : kids = [] ∨ ∃ b off, ta = some ⟨b, off, none⟩ ∧ b < ns ∧ ∀ j v, kids[j]? = some v → cellsAt W b (off + j * 4) v.tv ∧ IsT ns W v) :
    Calls Tryz.prog 50 #[.agg #[.int .i64 tk, .int .i64 tN, .string ts, .slice ta tl tc], .slice (some ⟨pb, off0, none⟩) len cap, u.tv.val] W (PutSays (D + 1) ns W ((tk, tN, ts.toList, tl) :: putL q f kids)) := by
  have hl1 : tl ≤ kids.length := by omega
  have hl2 : kids.length ≤ tl := by omega
  have hlz : ((len : Int) == 0) = false := by simp; omega
  have hl0n : 0 < len := by omega
  have hl0 : (0 : Int) < len := by omega
  have hle1 : (1 : Int) ≤ len := by omega
  obtain ⟨W3, hW3, hB3, hba, hbb, hbz, hsz⟩ := three_z W ⟨tk, tN, ts, ta, tl, tc⟩ u.tv
  simp only at hW3
  obtain ⟨i0, hi, hz0, hz1, hz2⟩ := info_parts Tryz.info28
  have HZ := hide hz
  have HU := hide hu
  have HB3 := hide hB3
  have HBA := hide hba
  have HBB := hide hbb
  have HBZ := hide hbz
  have HSZ := hide hsz
  have HP0 := hide hp0
  clear hz hu hB3 hba hbb hbz hsz hlen hp0
  go_enter Tryz.func50, Tryz.ntmps50
  simp only [TV.val]
  go_wp2_with fail
  clear hW3
  go_loopw [7, 8] (fun av i wr => ∃ (j : Nat) (l : List TV), j ≤ tl ∧ i = .int .i64 j ∧ l.length = j ∧ Below (W.heap.size + 3) W3 wr ∧ Made D (Mix ns (W.heap.size + 3)) (W.heap.size + 3) wr av l ((kids.zipIdx.take j).flatMap fun p => if p.2 = q then f p.1 else code p.1)) (fun _ i _ => tl - (intOf i).toNat)
  case atStart => exact ⟨0, [], Nat.zero_le _, rfl, rfl, Below.refl _ _, by simpa using Made.zero _ _ _ _⟩
  case round =>
    obtain ⟨j, l, hj, rfl, hll, hb, hm⟩ := hrel
    have hsz := unhide HSZ
    have hbs := hb.size
    have hbw : Below W.heap.size W wr := (unhide HB3).trans (hb.mono (by omega))
    have hbar : BoxT wr W.heap.size ⟨tk, tN, ts, ta, tl, tc⟩ := (hb.block _ (by omega)).trans (unhide HBA)
    have hbbr : BoxT wr (W.heap.size + 1) u.tv := (hb.block _ (by omega)).trans (unhide HBB)
    have hbzr := (hb.block (W.heap.size + 2) (by omega)).trans (unhide HBZ)
    have b3 := hbar.c3
    simp only at b3
    have p0 : wr.cell? ⟨pb, off0, none⟩ = some (.int .i64 (q : Nat)) := (hbw.cell (p := ⟨pb, off0, none⟩) hpb).trans (unhide HP0)
    have HM := hide hm
    have HLL := hide hll
    clear hll
    obtain ⟨va, vc, rfl⟩ := row_slice hm.owns
    by_cases hlt : j < tl
    · obtain ⟨z, bk, off, hz', rfl, ⟨c0, c1, c2, c3⟩, hT, hbk2⟩ := kid_below hkids (hbw.mono hns) hlt hl1
      have hj1 : (j : Int) < tl := by omega
      have hzt := zip_take (g := fun p : Tm n × Nat => if p.2 = q then f p.1 else code p.1) hz'
      have hy0 : W.heap.size < wr.heap.size := by omega
      have hy1 : W.heap.size + 1 < wr.heap.size := by omega
      have hy2 : bk < wr.heap.size := by omega
      have hx0 : W.heap.size < W.heap.size + 3 := by omega
      have hx1 : W.heap.size + 1 < W.heap.size + 3 := by omega
      have hx2 : bk < W.heap.size + 3 := by omega
      have hpb2 : pb < wr.heap.size := by omega
      by_cases hjq : j = q
      · subst hjq
        rw [if_pos rfl] at hzt
        have hjq' : ((j : Int) == (j : Int)) = true := by simp
        have ihu := ((unhide HZ) z wr.drew hz' hbw.drew).mono
          (R' := fun e W5 => ∃ x : TV, e = .returned x.val ∧ Below wr.heap.size wr W5 ∧ HoldsS D (Mix ns wr.heap.size) W5 x.val (f z)) (fun e W5 h => by
            obtain ⟨x, g1, g2, g3⟩ := h
            exact ⟨x, g1, (Below.refl _ wr).drew.trans g2, g3⟩)
        have e0 := hbbr.c0
        have e1 := hbbr.c1
        have e2 := hbbr.c2
        have e3 := hbbr.c3
        have HZT := hide hzt
        clear hkids hT hz' hzt hm hbar hbbr hbzr
        simp only [TV.val] at ihu
        go_wp2_with fail
        refine wp_region_noPanic ?_
        refine wp_region_held_drew (S := (fun w' => w'.cell? ⟨W.heap.size, 3, none⟩ = some (.slice (some ⟨bk, off, none⟩) tl tc) ∧ w'.cell? ⟨bk, off + j * 4, none⟩ = some (.int .i64 z.tv.k) ∧ w'.cell? ⟨bk, off + j * 4 + 1, none⟩ = some (.int .i64 z.tv.N) ∧ w'.cell? ⟨bk, off + j * 4 + 2, none⟩ = some (.string z.tv.s) ∧ w'.cell? ⟨bk, off + j * 4 + 3, none⟩ = some (.slice z.tv.a z.tv.len z.tv.cap) ∧ w'.cell? ⟨W.heap.size + 1, 0, none⟩ = some (.int .i64 u.tv.k) ∧ w'.cell? ⟨W.heap.size + 1, 1, none⟩ = some (.int .i64 u.tv.N) ∧ w'.cell? ⟨W.heap.size + 1, 2, none⟩ = some (.string u.tv.s) ∧ w'.cell? ⟨W.heap.size + 1, 3, none⟩ = some (.slice u.tv.a u.tv.len u.tv.cap))) (by kernel_rfl) ?_ (fun hHeld => ?_)
        · go_keep
        refine wpAnyH_take (i := 0) (oi := { dst := some 25, op := Op.move (Operand.tmp 7), type := 22, pos := "term.go:318", after := #[], guard := none }) (v := ?_) rfl (by kernel_rfl) (by kernel_rfl) (by kernel_rfl) (fun _ _ _ h => h) (Or.inl ⟨by rfl, ?_⟩) hHeld ?_
        rotate_left
        · (intro w' hSw; (try dsimp only at hSw); go_simp; try with_reducible rfl)
        try simp only [Act.put, List.setIfInBounds_toArray, List.set_cons_zero, List.set_cons_succ]
        refine wpAnyH_take (i := 1) (oi := { dst := some 26, op := Op.fieldAddr 24 (Operand.tmp 3) 3, type := 0, pos := "term.go:318", after := #[], guard := none }) (v := ?_) rfl (by kernel_rfl) (by kernel_rfl) (by kernel_rfl) (fun _ _ _ h => h) (Or.inl ⟨by rfl, ?_⟩) hHeld ?_
        rotate_left
        · (intro w' hSw; (try dsimp only at hSw); go_simp; try with_reducible rfl)
        try simp only [Act.put, List.setIfInBounds_toArray, List.set_cons_zero, List.set_cons_succ]
        refine wpAnyH_take (i := 2) (oi := { dst := some 27, op := Op.load 22 (Operand.tmp 26), type := 22, pos := "term.go:318", after := #[{ on := 1, ground := Ground.data }], guard := none }) (v := ?_) rfl (by kernel_rfl) (by kernel_rfl) (by kernel_rfl) (fun _ _ _ h => h) (Or.inl ⟨by rfl, ?_⟩) hHeld ?_
        rotate_left
        · (intro w' hSw; (try dsimp only at hSw); go_simp; try with_reducible rfl)
        try simp only [Act.put, List.setIfInBounds_toArray, List.set_cons_zero, List.set_cons_succ]
        refine wpAnyH_take (i := 3) (oi := { dst := some 28, op := Op.move (Operand.tmp 8), type := 3, pos := "term.go:318", after := #[], guard := none }) (v := ?_) rfl (by kernel_rfl) (by kernel_rfl) (by kernel_rfl) (fun _ _ _ h => h) (Or.inl ⟨by rfl, ?_⟩) hHeld ?_
        rotate_left
        · (intro w' hSw; (try dsimp only at hSw); go_simp; try with_reducible rfl)
        try simp only [Act.put, List.setIfInBounds_toArray, List.set_cons_zero, List.set_cons_succ]
        refine wpAnyH_take (i := 4) (oi := { dst := some 29, op := Op.indexAddr 22 (Operand.tmp 27) (Operand.tmp 28), type := 0, pos := "term.go:318", after := #[{ on := 2, ground := Ground.data }, { on := 3, ground := Ground.data }], guard := none }) (v := ?_) rfl (by kernel_rfl) (by kernel_rfl) (by kernel_rfl) (fun _ _ _ h => h) (Or.inl ⟨by rfl, ?_⟩) hHeld ?_
        rotate_left
        · (intro w' hSw; (try dsimp only at hSw); go_simp; try with_reducible rfl)
        try simp only [Act.put, List.setIfInBounds_toArray, List.set_cons_zero, List.set_cons_succ]
        refine wpAnyH_take (i := 5) (oi := { dst := some 30, op := Op.load 24 (Operand.tmp 29), type := 24, pos := "term.go:318", after := #[{ on := 4, ground := Ground.data }], guard := none }) (v := ?_) rfl (by kernel_rfl) (by kernel_rfl) (by kernel_rfl) (fun _ _ _ h => h) (Or.inl ⟨by rfl, ?_⟩) hHeld ?_
        rotate_left
        · (intro w' hSw; (try dsimp only at hSw); go_simp; try with_reducible rfl)
        try simp only [Act.put, List.setIfInBounds_toArray, List.set_cons_zero, List.set_cons_succ]
        refine wpAnyH_take (i := 6) (oi := { dst := some 31, op := Op.move (Operand.tmp 1), type := 25, pos := "term.go:318", after := #[], guard := none }) (v := ?_) rfl (by kernel_rfl) (by kernel_rfl) (by kernel_rfl) (fun _ _ _ h => h) (Or.inl ⟨by rfl, ?_⟩) hHeld ?_
        rotate_left
        · (intro w' hSw; (try dsimp only at hSw); go_simp; try with_reducible rfl)
        try simp only [Act.put, List.setIfInBounds_toArray, List.set_cons_zero, List.set_cons_succ]
        refine wpAnyH_take (i := 7) (oi := { dst := some 32, op := Op.slice 25 (Operand.tmp 31) (some (Operand.const (Value.int IntKind.i64 1))) none none, type := 25, pos := "term.go:318", after := #[{ on := 6, ground := Ground.data }], guard := none }) (v := ?_) rfl (by kernel_rfl) (by kernel_rfl) (by kernel_rfl) (fun _ _ _ h => h) (Or.inl ⟨by rfl, ?_⟩) hHeld ?_
        rotate_left
        · (intro w' hSw; (try dsimp only at hSw); go_simp; try with_reducible rfl)
        try simp only [Act.put, List.setIfInBounds_toArray, List.set_cons_zero, List.set_cons_succ]
        refine wpAnyH_take (i := 8) (oi := { dst := some 33, op := Op.load 24 (Operand.tmp 5), type := 24, pos := "term.go:318", after := #[], guard := none }) (v := ?_) rfl (by kernel_rfl) (by kernel_rfl) (by kernel_rfl) (fun _ _ _ h => h) (Or.inl ⟨by rfl, ?_⟩) hHeld ?_
        rotate_left
        · (intro w' hSw; (try dsimp only at hSw); go_simp; try with_reducible rfl)
        try simp only [Act.put, List.setIfInBounds_toArray, List.set_cons_zero, List.set_cons_succ]
        refine wpAnyH_ready (rs := [9]) (by kernel_rfl) (by simp) ?_
        refine AllReadyH.cons (o := { dst := some 34, op := Op.call { callee := Callee.value (Operand.func 50), args := #[Operand.tmp 30, Operand.tmp 32, Operand.tmp 33], argTypes := #[24, 25, 24] }, type := 24, pos := "term.go:318", after := #[{ on := 5, ground := Ground.data }, { on := 7, ground := Ground.data }, { on := 8, ground := Ground.data }], guard := none }) rfl (fun K hK => ?_) AllReadyH.nil
        have hHold := hHeld
        clear hHeld
        go_simp
        refine ihu.mono ?_
        clear ihu
        rintro e W5 ⟨x, rfl, hb5, hx⟩
        have hbc := bcell hb5
        dsimp only [TV.val]
        go_wp2_with fail
        refine hK.out _ _ ?_ (fun hHeld => ?_)
        · ((try dsimp only); go_keep)
        clear hK K hHold
        try simp only [Act.put, List.setIfInBounds_toArray, List.set_cons_zero, List.set_cons_succ]
        refine wpAnyH_ready (rs := [10]) (by kernel_rfl) (by simp) ?_
        refine AllReadyH.cons (o := { dst := some 35, op := Op.buildSlice 22 1 #[(0, Operand.tmp 34)], type := 22, pos := "term.go:318", after := #[{ on := 9, ground := Ground.data }], guard := none }) rfl (fun K hK => ?_) AllReadyH.nil
        have hHold := hHeld
        clear hHeld
        go_simp
        refine hK.out _ _ ?_ (fun hHeld => ?_)
        · ((try dsimp only); go_keep)
        clear hK K hHold
        try simp only [Act.put, List.setIfInBounds_toArray, List.set_cons_zero, List.set_cons_succ]
        refine wpAnyH_ready (rs := [11]) (by kernel_rfl) (by simp) ?_
        refine AllReadyH.cons (o := { dst := some 36, op := Op.call { callee := Callee.builtin Builtin.append, args := #[Operand.tmp 25, Operand.tmp 35], argTypes := #[22, 22] }, type := 22, pos := "term.go:318", after := #[{ on := 0, ground := Ground.data }, { on := 10, ground := Ground.data }, { on := 9, ground := Ground.chain }], guard := none }) rfl (fun K hK => ?_) AllReadyH.nil
        have hHold := hHeld
        clear hHeld
        have hs5 := hb5.size
        have hown5 : (W5.alloc (.cells #[.int .i64 x.k, .int .i64 x.N, .string x.s, .slice x.a x.len x.cap] 24)).ownsRow (W.heap.size + 3) 24 4 (.slice va l.length vc) l.length (l.flatMap TV.row) :=
          owns_below (unhide HM).owns (fun g hg => by
            have hlt := (owns_lt (unhide HM).owns hg).2
            exact (Below.heap_alloc _ _ _ (Nat.lt_of_lt_of_le hlt hb5.size)).trans (hb5.block g hlt))
        obtain ⟨u6, w6, hr6, hown6, hg6, _, hbk6⟩ := run_append_own_at (P := Tryz.prog) _ (W.heap.size + 3) 22 22 24 i0 _ 4 56 Tryz.underlying22 hi hz0 hz1 hz2 rfl (by decide) (.slice va l.length vc) l.length (l.flatMap TV.row) hown5 ⟨W5.heap.size, 0, none⟩ 1 1 x.row rfl new_cells row_one (by have := unhide HLL; unfold maxLen; omega) (by have := unhide HLL; omega) (by simp; omega)
        have hgl : ∀ g, (Value.slice va l.length vc).ownBlock = some g → W.heap.size + 3 ≤ g ∧ g < wr.heap.size := fun g hg => owns_lt (unhide HM).owns hg
        have hb6 : Below (W.heap.size + 3) W5 w6 := ((Below.refl _ W5).alloc (by omega) _).grown hg6 (by simp; omega) (fun g hg => (hgl g hg).1)
        have hbd : ∀ b o, b < W.heap.size + 3 → w6.cell? ⟨b, o, none⟩ = W5.cell? ⟨b, o, none⟩ := fun b o h => hb6.cell (p := ⟨b, o, none⟩) h
        obtain ⟨va6, vc6, rfl⟩ := row_slice hown6
        rw [if_pos (by rfl)]
        refine wp_append_row _ _ _ rfl rfl rfl hr6 ?_
        refine hK.out _ _ ?_ (fun hHeld => ?_)
        · ((try dsimp only); go_keep)
        clear hK K hHold
        try simp only [Act.put, List.setIfInBounds_toArray, List.set_cons_zero, List.set_cons_succ]
        refine wpAnyH_take (i := 12) (oi := { dst := some 7, op := Op.assign (Operand.tmp 36), type := 22, pos := "term.go:318", after := #[{ on := 11, ground := Ground.data }, { on := 11, ground := Ground.chain }, { on := 0, ground := Ground.phase }, { on := 1, ground := Ground.phase }, { on := 2, ground := Ground.phase }, { on := 3, ground := Ground.phase }, { on := 4, ground := Ground.phase }, { on := 5, ground := Ground.phase }, { on := 6, ground := Ground.phase }, { on := 7, ground := Ground.phase }, { on := 8, ground := Ground.phase }, { on := 9, ground := Ground.phase }, { on := 10, ground := Ground.phase }, { on := 11, ground := Ground.phase }], guard := none }) (v := ?_) rfl (by kernel_rfl) (by kernel_rfl) (by kernel_rfl) (fun _ _ _ h => h) (Or.inl ⟨by rfl, ?_⟩) hHeld ?_
        rotate_left
        · (intro w' hSw; (try dsimp only at hSw); go_simp; try with_reducible rfl)
        try simp only [Act.put, List.setIfInBounds_toArray, List.set_cons_zero, List.set_cons_succ]
        refine wpAnyH_done (by kernel_rfl) ?_ _
        refine NoPanic.normal ?_
        clear hbc hbd
        have hmade := (unhide HM).next hb5 (hx.mono (Nat.le_refl _) (fun b hb => ⟨by unfold Mix at hb ⊢; omega, fun e => by have := hgl b e; unfold Mix at hb; omega⟩)) hown6 hg6 (by simpa using hbk6)
        rw [← unhide HZT] at hmade
        have hbel : Below (W.heap.size + 3) W3 w6 := (hb.trans (hb5.mono (by omega))).trans hb6
        have HMF := hide hmade
        clear hmade hown6 hown5 hg6 hr6 hb6 hx hbk6 hgl
        go_wp2_with fail
        exact ⟨⟨j + 1, l ++ [x], by omega, by go_num, by simp [unhide HLL], hbel, unhide HMF⟩, by simp [intOf]; omega⟩
      · rw [if_neg hjq] at hzt
        have hjq' : ((j : Int) == (q : Int)) = false := by simp; omega
        have hjq2 : (j == q) = false := by simp [hjq]
        have hTw : IsT wr.heap.size wr z := hT.mono (by have := hbw.size; omega)
        have hx : HoldsS D (fun b => Mix ns (W.heap.size + 3) b ∧ (Value.slice va l.length vc).ownBlock ≠ some b) wr z.tv.val (code z) :=
          (holdsS_of hTw hT.blk).mono hD (fun b hb => ⟨.inl hb, fun e => by have := (owns_lt (unhide HM).owns e).1; omega⟩)
        have hown5 : (wr.alloc (.cells #[.int .i64 z.tv.k, .int .i64 z.tv.N, .string z.tv.s, .slice z.tv.a z.tv.len z.tv.cap] 24)).ownsRow (W.heap.size + 3) 24 4 (.slice va l.length vc) l.length (l.flatMap TV.row) :=
          owns_below (unhide HM).owns (fun g hg => Below.heap_alloc _ _ _ (owns_lt (unhide HM).owns hg).2)
        obtain ⟨u6, w6, hr6, hown6, hg6, _, hbk6⟩ := run_append_own_at (P := Tryz.prog) _ (W.heap.size + 3) 22 22 24 i0 _ 4 56 Tryz.underlying22 hi hz0 hz1 hz2 rfl (by decide) (.slice va l.length vc) l.length (l.flatMap TV.row) hown5 ⟨wr.heap.size, 0, none⟩ 1 1 z.tv.row rfl new_cells row_one (by have := unhide HLL; unfold maxLen; omega) (by have := unhide HLL; omega) (by simp; omega)
        have hmade := (unhide HM).next (Below.refl _ wr) hx hown6 hg6 (by simpa using hbk6)
        rw [← hzt] at hmade
        have hbel : Below (W.heap.size + 3) W3 w6 := (hb.alloc (by omega) _).grown hg6 (by simp; omega) (fun g hg => (owns_lt (unhide HM).owns hg).1)
        obtain ⟨va6, vc6, rfl⟩ := row_slice hown6
        have HMF := hide hmade
        clear hmade hown6 hown5 hg6 hbk6 hx hTw hkids hT hz' hzt hm hbar hbbr hbzr hjq
        go_wp2_with (at_builtin; go_must (refine wpList_append_row rfl _ _ _ rfl rfl rfl hr6 ?_))
        exact ⟨⟨j + 1, l ++ [z.tv], by omega, by go_num, by simp [unhide HLL], hbel, unhide HMF⟩, by simp [intOf]; omega⟩
    · have hjl : j = tl := by omega
      have ht : kids.zipIdx.take j = kids.zipIdx := List.take_of_length_le (by simp; omega)
      rw [ht] at hm
      obtain ⟨aa, cc, hv', hfin⟩ := args_end3 (k := tk) (N := tN) (s := ts) (len := tl) (by rw [unhide HLL, hjl]) hl50 hs hbw hns hm
      obtain ⟨⟨z0, z1, z2, z3⟩, y0, y1, y2, y3⟩ := zbox_kept hbzr
      have x0 := hbar.c0
      have x1 := hbar.c1
      have x2 := hbar.c2
      have x3 := hbar.c3
      simp only at x0 x1 x2 x3
      have f3 : wr.frozen? ⟨W.heap.size, 3, none⟩ = false := by simp [World.frozen?, show wr.heap[W.heap.size]? = _ from hbar]
      simp only [Value.slice.injEq] at hv'
      obtain ⟨rfl, hle, rfl⟩ := hv'
      rw [hle] at hfin ⊢
      clear hle
      obtain ⟨f1, f2⟩ := hfin
      have F1 := hide f1
      have F2 := hide f2
      have hlt' : ¬ (j : Int) < (tl : Int) := by omega
      clear f1 f2 hm ht hkids hjl hbar hbbr hbzr
      go_wp2_with fail
      refine bodyPost_ret (v := (⟨tk, tN, ts, va, tl, vc⟩ : TV).val) ?_ rfl ⟨_, rfl, unhide F1, unhide F2⟩
      simp [results, Tryz.results50, go_sem, TV.val, z0, z1, z2, z3]

/-- hornref.Put at a path that is there. -/
theorem rput_any {d ns₀ : Nat} (u : Tm d) : ∀ (ns : List Int) (n : Nat) (t : Tm n) (a : Option Addr) (len cap : Nat) (W : World), IsN W a len ns → len ≤ cap → IsT ns₀ W t → IsT ns₀ W u → ns₀ ≤ W.heap.size → okT t = true → atT ns t ≠ none →
    Calls Tryz.prog 50 #[t.tv.val, .slice a len cap, u.tv.val] W (PutSays (n + d) ns₀ W (putC ns t (code u))) := by
  intro ns
  induction ns with
  | nil =>
    intro n t a len cap W hN hcap hT hu hns hok hat
    have hl0 : len = 0 := hN.1
    subst hl0
    refine (rput_nil t u a cap W hu hns).mono fun e W' h => ?_
    obtain ⟨x, g1, g2, g3⟩ := h
    exact ⟨x, g1, g2, g3.mono (by omega) (fun _ h => h)⟩
  | cons k r ih =>
    intro n t a len cap W hN hcap hT hu hns hok hat
    cases n with
    | zero => exact Empty.elim t
    | succ n =>
      have hl0 : len = r.length + 1 := by have := hN.1; simpa using this
      obtain ⟨k', pb, off, hk', rfl, p0⟩ := num_at hN (j := 0) (by omega)
      simp at hk'
      subst hk'
      have hN' : IsN W (if cap = 1 then some ⟨pb, off, none⟩ else some ⟨pb, off + 1, none⟩) (len - 1) r := by
        obtain ⟨g1, g2, g3⟩ := hN
        refine ⟨by omega, by omega, ?_⟩
        by_cases hc1 : cap = 1
        · exact .inl (List.length_eq_zero_iff.1 (by omega))
        · rw [if_neg hc1]
          obtain ⟨b, o, he, hlt, hk⟩ := g3.resolve_left (by simp)
          simp at he
          obtain ⟨rfl, rfl⟩ := he
          exact .inr ⟨pb, off + 1, rfl, hlt, fun j N hj => by have := hk (j + 1) N (by simpa using hj); rwa [show off + (j + 1) = off + 1 + j by omega] at this⟩
      have hpb : pb < W.heap.size := by
        obtain ⟨_, _, g3⟩ := hN
        obtain ⟨b, o, he, hlt, _⟩ := g3.resolve_left (by simp)
        simp at he
        omega
      by_cases hin : 0 ≤ k ∧ k < (t.kids.length : Int)
      · obtain ⟨q, hq⟩ : ∃ q : Nat, k = (q : Nat) := ⟨k.toNat, by omega⟩
        subst hq
        obtain ⟨z, hz⟩ : ∃ z, t.kids[q]? = some z := ⟨t.kids[q]'(by omega), List.getElem?_eq_getElem (by omega)⟩
        rw [atT_go rfl hz] at hat
        obtain ⟨⟨tk, tN, ts, ta, tl, tc⟩, kids⟩ := t
        obtain ⟨hwm, hko⟩ := ok_kids hok
        obtain ⟨hlen, hmax, hsm, hkids⟩ := hT
        have hl50 : tl ≤ 50 := by
          simp only at hwm
          rcases wm_cases hwm with ⟨_, _, _, _, h⟩ | ⟨_, h⟩ | ⟨_, _, _, h⟩ <;> omega
        have hz' : kids[q]? = some z := hz
        have hne : kids ≠ [] := by rintro rfl; simp at hz'
        have hTz : ∀ v, kids[q]? = some v → IsT ns₀ W v := fun v hv => by
          obtain ⟨b, o, _, _, hk⟩ := hkids.resolve_left hne
          exact (hk q v hv).2
        have hcomp := rput_comp (n := n) (d := d) (ns := ns₀) (D := n + d) (q := q) u (fun v => putC r v (code u)) tk tN ts ta tl tc pb off len cap kids W _ rfl (fun v W2 hv hb => by
          rw [hz'] at hv
          cases hv
          exact ih n z _ (len - 1) (cap - 1) W2 (hN'.below hb) (by omega) ((hTz z hz').below (hb.mono hns)) (hu.below (hb.mono hns)) (Nat.le_trans hns hb.size) (hko z (List.mem_of_getElem? hz')) hat) hpb (by simpa using p0) (by omega) hcap (by omega) hu hns hlen hl50 hsm (by have := (List.getElem?_eq_some_iff.1 hz').1; have h2 : tl = kids.length := hlen; omega) hkids
        refine hcomp.mono fun e W' h => ?_
        obtain ⟨x, g1, g2, g3⟩ := h
        exact ⟨x, g1, g2, g3.mono (by omega) (fun _ h => h)⟩
      · exact (hat (atT_no hin)).elim
end Go.Proofs.YtiigkiemkhdclaaGreatDoor

/- Copies whose blocks are all apart: the contract of term.copyOf once more. -/
namespace Go.Proofs.YtiigkiemkhdclaaGreatDoor
open Go.RowKit Go.Shelf

/-- The blocks that a term's Args lie in. -/
def blks : {n : Nat} → Tm n → List Nat
  | 0, _ => []
  | _ + 1, t => (if t.kids = [] then [] else (t.tv.a.map Addr.block).toList) ++ t.kids.flatMap blks
/-- A block of terms' cells that may be written. -/
def Cell4 (W : World) (b : Nat) : Prop := ∃ arr : Array Value, W.heap[b]? = some (.cells arr 24 (0, 0))
theorem Cell4.lt {W : World} {b : Nat} (h : Cell4 W b) : b < W.heap.size := by obtain ⟨_, h⟩ := h; exact (Array.getElem?_eq_some_iff.1 h).1
theorem Cell4.kept {W W' : World} {b : Nat} (h : Cell4 W b) (hb : W'.heap[b]? = W.heap[b]?) : Cell4 W' b := by obtain ⟨a, h⟩ := h; exact ⟨a, hb.trans h⟩
/-- The value v is a term of the code c, its blocks all apart, from block lo on. -/
def HoldsN (D lo : Nat) (W : World) (v : Value) (c : List Nd) : Prop :=
  ∀ m, D ≤ m → ∃ t : Tm m, v = t.tv.val ∧ IsT W.heap.size W t ∧ NewT lo t ∧ code t = c ∧ (blks t).Nodup ∧ ∀ b ∈ blks t, lo ≤ b ∧ Cell4 W b
theorem HoldsN.mono {D D' lo lo' : Nat} {A : World} {v : Value} {c : List Nd} (h : HoldsN D lo A v c) (hD : D ≤ D') (hl : lo' ≤ lo) : HoldsN D' lo' A v c := fun m hm => by
  obtain ⟨t, h1, h2, h3, h4, h5, h6⟩ := h m (by omega)
  exact ⟨t, h1, h2, h3.mono hl, h4, h5, fun b hb => ⟨by have := (h6 b hb).1; omega, (h6 b hb).2⟩⟩
theorem holdsN_leaf {D D' lo : Nat} {W : World} {v : Value} {c : List Nd} (h : HoldsT D lo W v c) (hc : c.length = 1) (hD : D ≤ D') : HoldsN D' lo W v c := fun m hm => by
  obtain ⟨t, h1, h2, h3, h4⟩ := h m (by omega)
  have hb : blks t = [] := by
    cases m with
    | zero => exact Empty.elim t
    | succ m =>
      have hk : t.kids = [] := by
        obtain ⟨x, kids⟩ := t
        rw [code_succ] at h4
        rw [← h4] at hc
        simp only [List.length_cons] at hc
        cases kids with
        | nil => rfl
        | cons u r =>
          have hu : 1 ≤ (code u).length := by
            cases m with
            | zero => exact Empty.elim u
            | succ m => simp [code, parts]
          simp only [List.flatMap_cons, List.length_append] at hc
          omega
      show (if t.kids = [] then [] else (t.tv.a.map Addr.block).toList) ++ t.kids.flatMap blks = []
      rw [hk]; simp
  exact ⟨t, h1, h2, h3, h4, by rw [hb]; exact List.nodup_nil, fun b hb' => by rw [hb] at hb'; cases hb'⟩
theorem holdsN_set4 {D lo : Nat} {W1 : World} {v : Value} {c : List Nd} (h : HoldsN D lo W1 v c) {b : Nat} (hb : b < lo) (o : Nat) (x : TV) : HoldsN D lo (set4 W1 b o x) v c := fun m hm => by
  obtain ⟨t, h1, h2, h3, h4, h5, h6⟩ := h m hm
  exact ⟨t, h1, by rw [set4_size]; exact h2.from (fun k hk => set4_other W1 b o x (by omega)) h3, h3, h4, h5, fun k hk => ⟨(h6 k hk).1, (h6 k hk).2.kept (set4_other W1 b o x (by have := (h6 k hk).1; omega))⟩⟩
/-- As Written, the blocks apart. -/
def WrittenN (D B j : Nat) (W : World) (c : List Nd) : Prop :=
  ∀ M, D ≤ M → ∃ ks : List (Tm M), ks.length = j ∧ (∀ i u, ks[i]? = some u → cellsAt W B (i * 4) u.tv ∧ IsT W.heap.size W u ∧ NewT (B + 1) u) ∧ ks.flatMap code = c ∧ (ks.flatMap blks).Nodup ∧ ∀ b ∈ ks.flatMap blks, B + 1 ≤ b ∧ Cell4 W b
theorem WrittenN.zero (D B : Nat) (W : World) : WrittenN D B 0 W [] := fun M _ => ⟨[], rfl, (fun i u h => by simp at h), rfl, List.nodup_nil, (fun b hb => by cases hb)⟩
theorem WrittenN.next {D B j lo : Nat} {W W5 : World} {c c' : List Nd} {len : Nat} {x : TV} (h : WrittenN D B j W c) (hj : j < len) (hr : Row4 W5 B len) (hb : Below W.heap.size W W5) (hB : B < W.heap.size) (hv : HoldsN D lo W5 x.val c') (hlo : W.heap.size ≤ lo) :
    WrittenN D B (j + 1) (set4 W5 B (j * 4) x) (c ++ c') := fun M hM => by
  obtain ⟨ks, hl, hk, hc, hnd, hbd⟩ := h M hM
  obtain ⟨u, hu, hT, hN0, hcu, hund, hubd⟩ := hv M hM
  have hN : NewT (B + 1) u := hN0.mono (by omega)
  have hux : u.tv = x := by
    simp only [TV.val, Value.agg.injEq] at hu
    simp at hu
    obtain ⟨e1, e2, e3, e4, e5, e6⟩ := hu
    cases hx : u.tv; cases x; simp_all
  refine ⟨ks ++ [u], by simp [hl], fun i z hz => ?_, by simp [hc, hcu], ?_, ?_⟩
  rotate_left
  · rw [List.flatMap_append, List.flatMap_cons, List.flatMap_nil, List.append_nil, List.nodup_append]
    exact ⟨hnd, hund, fun b hb b' hb' e => by have := (hbd b hb).2.lt; have := (hubd b' hb').1; omega⟩
  · intro b hb'
    rw [List.flatMap_append, List.flatMap_cons, List.flatMap_nil, List.append_nil] at hb'
    rcases List.mem_append.1 hb' with hb' | hb'
    · obtain ⟨q1, q2⟩ := hbd b hb'
      exact ⟨q1, (q2.kept (hb.block b q2.lt)).kept (set4_other W5 B (j * 4) x (by omega))⟩
    · obtain ⟨q1, q2⟩ := hubd b hb'
      exact ⟨by omega, q2.kept (set4_other W5 B (j * 4) x (by omega))⟩
  by_cases hi : i < j
  · rw [List.getElem?_append_left (by omega)] at hz
    obtain ⟨k1, k2, k3⟩ := hk i z hz
    have k1' := k1.kept (hb.block B hB)
    refine ⟨?_, ?_, k3⟩
    · exact ⟨(set4_far W5 B (j * 4) x (by omega)).trans k1'.1, (set4_far W5 B (j * 4) x (by omega)).trans k1'.2.1, (set4_far W5 B (j * 4) x (by omega)).trans k1'.2.2.1, (set4_far W5 B (j * 4) x (by omega)).trans k1'.2.2.2⟩
    · rw [set4_size]
      exact ((k2.below hb).mono hb.size).from (fun q hq => set4_other W5 B (j * 4) x (by omega)) k3
  · rw [List.getElem?_append_right (by omega)] at hz
    have hi2 : i - ks.length = 0 := by
      by_cases e : i - ks.length = 0
      · exact e
      · rw [List.getElem?_eq_none (by simp; omega)] at hz; cases hz
    rw [hi2] at hz
    simp at hz
    subst hz
    obtain rfl : i = j := by omega
    refine ⟨?_, ?_, hN⟩
    · rw [hux]
      have g : ∀ q, q < len * 4 → (W5.cell? ⟨B, q, none⟩).isSome = true := fun q hq => by obtain ⟨⟨v, hv⟩, _⟩ := hr.cell hq; rw [hv]; rfl
      exact set4_cells W5 B (i * 4) x (g _ (by omega)) (g _ (by omega)) (g _ (by omega)) (g _ (by omega))
    · rw [set4_size]
      exact hT.from (fun q hq => set4_other W5 B (i * 4) x (by omega)) hN
/-- The end of replace at a compound. -/
theorem comp_endN {D : Nat} {W wr : World} {s : ByteArray} {len : Nat} {c : List Nd} (hB : Below W.heap.size W wr) (hs : s.size ≤ 9223372036854775807) (hl : len ≤ 50) (hsz : W.heap.size + 3 ≤ wr.heap.size) (hw : WrittenN D (W.heap.size + 2) len wr c) (hrow : Row4 wr (W.heap.size + 2) len) :
    let x : TV := ⟨4, 0, s, some ⟨W.heap.size + 2, 0, none⟩, len, len⟩
    Below W.heap.size W (set4 wr (W.heap.size + 1) 0 x) ∧ HoldsN (D + 1) W.heap.size (set4 wr (W.heap.size + 1) 0 x) x.val ((4, 0, s.toList, len) :: c) := by
  intro x
  refine ⟨set4_below hB (by omega) 0 x, fun m hm => ?_⟩
  obtain ⟨M, rfl⟩ : ∃ M, m = M + 1 := ⟨m - 1, by omega⟩
  obtain ⟨ks, hkl, hks, hkc, hnd, hbd⟩ := hw M (by omega)
  refine ⟨((x, ks) : TV × List (Tm M)), rfl, ?_, ?_, ?_, ?_, ?_⟩
  · refine ⟨hkl.symm, ?_, hs, .inr ⟨W.heap.size + 2, 0, rfl, by rw [set4_size]; omega, fun j u hu => ?_⟩⟩
    · show len ≤ _
      omega
    · obtain ⟨k1, k2, k3⟩ := hks j u hu
      refine ⟨?_, ?_⟩
      · rw [Nat.zero_add]
        exact k1.kept (set4_other wr _ 0 x (by omega))
      · rw [set4_size]
        exact k2.from (fun q hq => set4_other wr _ 0 x (by omega)) k3
  · exact ⟨.inr ⟨W.heap.size + 2, 0, rfl, by omega⟩, fun u hu => by
      obtain ⟨j, hj⟩ := List.mem_iff_getElem?.1 hu
      exact (hks j u hj).2.2.mono (by omega)⟩
  · rw [code_succ, hkc]; rfl
  · show ((if ks = [] then [] else [W.heap.size + 2]) ++ ks.flatMap blks).Nodup
    split
    · simpa using hnd
    · rw [List.cons_append, List.nil_append, List.nodup_cons]
      exact ⟨fun hm => by have := (hbd _ hm).1; omega, hnd⟩
  · intro b hb
    have hb' : b ∈ (if ks = [] then [] else [W.heap.size + 2]) ++ ks.flatMap blks := hb
    rcases List.mem_append.1 hb' with h | h
    · split at h
      · cases h
      · simp at h
        subst h
        obtain ⟨arr, ha, _⟩ := hrow
        exact ⟨by omega, ⟨arr, (set4_other wr _ 0 x (by omega)).trans ha⟩⟩
    · obtain ⟨q1, q2⟩ := hbd b h
      exact ⟨by omega, q2.kept (set4_other wr _ 0 x (by omega))⟩

set_option maxRecDepth 100000 in
set_option maxHeartbeats 1000000 in
theorem replace_compN {n : Nat} (fv : Value) (β : Int → List Nd) (D : Nat) (w : World)
    (ih : ∀ (u : Tm n) (W : World), Below w.heap.size w W → IsT W.heap.size W u → okT u = true → Calls Tryz.prog 60 #[u.tv.val, fv] W fun e W' => ∃ v, e = .returned v ∧ Below W.heap.size W W' ∧ HoldsN (n + D) W.heap.size W' v ((code u).flatMap (subN β)))
    (s : ByteArray) (a : Option Addr) (len cap : Nat) (kids : List (Tm n)) (W : World) (hbW : Below w.heap.size w W) (hs : s.size ≤ 9223372036854775807) (hl50 : len ≤ 50) (hlen : len = kids.length)
    (hkids : kids = [] ∨ ∃ b off, a = some ⟨b, off, none⟩ ∧ b < W.heap.size ∧ ∀ j u, kids[j]? = some u → cellsAt W b (off + j * 4) u.tv ∧ IsT W.heap.size W u) (hok : ∀ u ∈ kids, okT u = true) :
    Calls Tryz.prog 60 #[.agg #[.int .i64 4, .int .i64 0, .string s, .slice a len cap], fv] W fun e W' => ∃ v, e = .returned v ∧ Below W.heap.size W W' ∧ HoldsN (n + 1 + D) W.heap.size W' v ((4, 0, s.toList, len) :: (kids.flatMap code).flatMap (subN β)) := by
  have hl1 : len ≤ kids.length := by omega
  have hl2 : kids.length ≤ len := by omega
  clear hlen
  have HI := hide ih
  have HO := hide hok
  clear ih hok
  have hmk := make_terms len hl50
  go_enter Tryz.func60, Tryz.ntmps60
  go_wp2_with fail
  obtain ⟨W3, hW3, hb3, hs3, bT, hz, hr⟩ := made_world W ⟨4, 0, s, a, len, cap⟩ len
  simp only at hW3
  rw [hW3]
  clear hW3 hmk
  have HZ := hide hz
  have HT := hide bT
  have HR := hide hr
  have HS := hide hs3
  clear hz bT hr hs3
  go_loopw [25] (fun i wr => ∃ j : Nat, j ≤ len ∧ i = .int .i64 j ∧ Below (W.heap.size + 2) W3 wr ∧ Row4 wr (W.heap.size + 2) len ∧ WrittenN (n + D) (W.heap.size + 2) j wr (((kids.take j).flatMap code).flatMap (subN β))) (fun i _ => len - (intOf i).toNat)
  case atStart => exact ⟨0, Nat.zero_le _, rfl, Below.refl _ _, unhide HR, WrittenN.zero _ _ _⟩
  case round =>
    obtain ⟨j, hj, rfl, hb, hrow, hwr⟩ := hrel
    have hbw : Below W.heap.size W wr := hb3.trans (hb.mono (by omega))
    have hsz : W.heap.size + 3 ≤ wr.heap.size := by have := hb.size; have := unhide HS; omega
    by_cases hlt : j < len
    · obtain ⟨u, b, off, hu, rfl, ⟨c0, c1, c2, c3⟩, hT, hbk⟩ := kid_at hkids hbw hlt hl1
      have hbu : Below wr.heap.size wr (wr.alloc (.cells #[.int .i64 u.tv.k, .int .i64 u.tv.N, .string u.tv.s, .slice u.tv.a u.tv.len u.tv.cap] 24)) := (Below.refl _ wr).alloc (Nat.le_refl _) _
      have ihu := (unhide HI) u (wr.alloc (.cells #[.int .i64 u.tv.k, .int .i64 u.tv.N, .string u.tv.s, .slice u.tv.a u.tv.len u.tv.cap] 24)) (hbW.trans ((hbw.trans (hbu.mono hbw.size)).mono hbW.size)) ((hT.below hbu).mono hbu.size) ((unhide HO) u (List.mem_of_getElem? hu))
      have hcode := code_take kids j u hu
      have HC := hide hcode
      have HW := hide hwr
      have HRW := hide hrow
      clear hT hkids hu hcode hwr hrow
      simp only [TV.val] at ihu
      have hj1 : (j : Int) < len := by omega
      go_wp2_with fail
      refine ihu.mono ?_
      clear ihu
      rintro e W5 ⟨v, rfl, hb5, hv⟩
      obtain ⟨t5, ht5, -⟩ := hv _ (Nat.le_refl _)
      subst ht5
      have hb5' : Below wr.heap.size wr W5 := hbu.trans (hb5.mono hbu.size)
      have hrow5 : Row4 W5 (W.heap.size + 2) len := (unhide HRW).kept (hb5'.block _ (unhide HRW).lt)
      obtain ⟨⟨_, z0⟩, y0⟩ := hrow5.cell (o := j * 4) (by omega)
      obtain ⟨⟨_, z1⟩, y1⟩ := hrow5.cell (o := j * 4 + 1) (by omega)
      obtain ⟨⟨_, z2⟩, y2⟩ := hrow5.cell (o := j * 4 + 2) (by omega)
      obtain ⟨⟨_, z3⟩, y3⟩ := hrow5.cell (o := j * 4 + 3) (by omega)
      have hfin := (unhide HW).next hlt hrow5 hb5' (unhide HRW).lt hv (by simp)
      rw [← List.flatMap_append, ← unhide HC] at hfin
      have hfin2 := hrow5.set4 (j * 4) t5.tv
      have hfin3 : Below (W.heap.size + 2) W3 (set4 W5 (W.heap.size + 2) (j * 4) t5.tv) := set4_below (hb.trans (hb5'.mono (by omega))) (Nat.le_refl _) _ _
      have G1 := hide hfin
      have G2 := hide hfin2
      have G3 := hide hfin3
      clear hfin hfin2 hfin3 hv hb5 hrow5 hb5' hbu
      simp only [TV.val]
      go_wp2_with fail
      go_roundw
      case rel => exact ⟨j + 1, by omega, by go_num, unhide G3, unhide G2, unhide G1⟩
      case measure => simp [intOf]; omega
    · have ht : kids.take j = kids := List.take_of_length_le (by omega)
      obtain rfl : j = len := by omega
      rw [ht] at hwr
      obtain ⟨⟨z0, z1, z2, z3⟩, y0, y1, y2, y3⟩ := zbox_kept ((hb.block (W.heap.size + 1) (by omega)).trans (unhide HZ))
      have bT : BoxT wr W.heap.size ⟨4, 0, s, a, j, cap⟩ := (hb.block W.heap.size (by omega)).trans (unhide HT)
      have x2 := bT.c2
      obtain ⟨f1, f2⟩ := comp_endN hbw hs hl50 hsz hwr hrow
      have F1 := hide f1
      have F2 := hide f2
      clear f1 f2 hwr ht hkids hrow
      go_wp2_with fail
      exact bodyPost_ret (v := (⟨4, 0, s, some ⟨W.heap.size + 2, 0, none⟩, j, j⟩ : TV).val) (by simp [results, Tryz.results60, go_sem, TV.val, z0, z1, z2, z3]) rfl ⟨_, rfl, unhide F1, by have h := unhide F2; rw [show n + 1 + D = n + D + 1 by omega]; exact h⟩

/-- term.replace, whatever the term. -/
theorem replace_sep (w : World) :
    ∀ (n : Nat) (t : Tm n) (W : World), Below w.heap.size w W → IsT W.heap.size W t → okT t = true →
      Calls Tryz.prog 60 #[t.tv.val, .func (.func 66) #[] #[]] W fun e W' => ∃ v, e = .returned v ∧ Below W.heap.size W W' ∧ HoldsN (n + 1) W.heap.size W' v ((code t).flatMap (subN fun N => [varNd N])) := by
  intro n
  induction n with
  | zero => intro t; exact Empty.elim t
  | succ n ih =>
    intro t W hb hT hok
    obtain ⟨⟨k, N, s, a, len, cap⟩, kids⟩ := t
    obtain ⟨hwm, hk⟩ := ok_kids hok
    obtain ⟨h1, h2, h3, h4⟩ := hT
    simp only [Tm.tv, Tm.kids] at h1 h2 h3 h4 hwm
    rw [code_succ, List.flatMap_cons]
    rcases wm_cases hwm with ⟨rfl, hN1, hN2, hse, rfl⟩ | ⟨hk23, rfl⟩ | ⟨rfl, rfl, hl1, hl2⟩
    · have hnil : kids = [] := List.length_eq_zero_iff.1 h1.symm
      subst hnil
      refine (replace_var 66 #[] (fun N => [varNd N]) 1 w (enters_of Tryz.func66 (by kernel_rfl) rfl) (variable_becomes w) N s a 0 cap W hN1 hN2 hb).mono fun e W' h => ?_
      obtain ⟨v, he, hb', hv⟩ := h
      exact ⟨v, he, hb', by simpa [subN, TV.nd] using holdsN_leaf hv (by simp) (by omega)⟩
    · have hnil : kids = [] := List.length_eq_zero_iff.1 h1.symm
      subst hnil
      refine (replace_leaf _ k N s a 0 cap W hk23 h3).mono fun e W' h => ?_
      obtain ⟨v, he, hb', hv⟩ := h
      have hne : ¬ k = 1 := by omega
      exact ⟨v, he, hb', by simpa [subN, TV.nd, hne] using holdsN_leaf hv (by simp) (by omega)⟩
    · refine (replace_compN _ (fun N => [varNd N]) 1 w ih s a len cap kids W hb h3 hl2 h1 h4 hk).mono fun e W' h => ?_
      obtain ⟨v, he, hb', hv⟩ := h
      exact ⟨v, he, hb', by simpa [subN, TV.nd] using hv⟩

set_option maxRecDepth 100000 in
set_option maxHeartbeats 1000000 in
/-- term.copyOf: the copy's blocks are all apart. -/
theorem copy_sep {n : Nat} (t : Tm n) (W : World) (hT : IsT W.heap.size W t) (hok : okT t = true) :
    Calls Tryz.prog 68 #[t.tv.val] W fun e W' => ∃ x : TV, e = .returned x.val ∧ Below W.heap.size W W' ∧ HoldsN (n + 1) W.heap.size W' x.val (code t) := by
  have hB : Below W.heap.size W ((W.alloc (.cells #[.int .i64 t.tv.k, .int .i64 t.tv.N, .string t.tv.s, .slice t.tv.a t.tv.len t.tv.cap] 24)).alloc (.cells #[.int .i64 0, .int .i64 0, .string ⟨#[]⟩, .slice none 0 0] 24)) := ((Below.refl _ W).alloc (Nat.le_refl _) _).alloc (by simp) _
  have hr := replace_sep ((W.alloc (.cells #[.int .i64 t.tv.k, .int .i64 t.tv.N, .string t.tv.s, .slice t.tv.a t.tv.len t.tv.cap] 24)).alloc (.cells #[.int .i64 0, .int .i64 0, .string ⟨#[]⟩, .slice none 0 0] 24)) n t _ (Below.refl _ _) ((hT.below hB).mono hB.size) hok
  rw [sub_var hok] at hr
  clear hT hok
  simp only [TV.val] at hr ⊢
  go_enter Tryz.func68, Tryz.ntmps68
  go_wp2_with fail
  refine hr.mono ?_
  clear hr
  rintro e W1 ⟨v, rfl, hb1, hv⟩
  obtain ⟨t1, ht1, -⟩ := hv _ (Nat.le_refl _)
  subst ht1
  have hbk := hb1.block (W.heap.size + 1) (by simp)
  have hnew := World.alloc_heap_new (W.alloc (.cells #[.int .i64 t.tv.k, .int .i64 t.tv.N, .string t.tv.s, .slice t.tv.a t.tv.len t.tv.cap] 24)) (.cells #[.int .i64 0, .int .i64 0, .string ⟨#[]⟩, .slice none 0 0] 24)
  rw [World.size_alloc] at hnew
  obtain ⟨⟨z0, z1, z2, z3⟩, y0, y1, y2, y3⟩ := zbox_kept (hbk.trans hnew)
  have hb2 := below_two hb1
  have hsz : ((W.alloc (.cells #[.int .i64 t.tv.k, .int .i64 t.tv.N, .string t.tv.s, .slice t.tv.a t.tv.len t.tv.cap] 24)).alloc (.cells #[.int .i64 0, .int .i64 0, .string ⟨#[]⟩, .slice none 0 0] 24)).heap.size = W.heap.size + 2 := by simp
  rw [hsz] at hv
  have hfin : HoldsN (n + 1) W.heap.size (set4 W1 (W.heap.size + 1) 0 t1.tv) t1.tv.val (code t) := (holdsN_set4 hv (by omega) 0 t1.tv).mono (Nat.le_refl _) (by omega)
  have hbf : Below W.heap.size W (set4 W1 (W.heap.size + 1) 0 t1.tv) := set4_below hb2 (by omega) 0 t1.tv
  have HF := hide hfin
  have HB := hide hbf
  clear hfin hbf hsz hv hb1 hb2 hbk hnew hB
  simp only [TV.val]
  go_wp2_with fail
  exact bodyPost_ret (v := t1.tv.val) (by simp [results, Tryz.results68, go_sem, TV.val, z0, z1, z2, z3]) rfl ⟨t1.tv, rfl, unhide HB, unhide HF⟩

end Go.Proofs.YtiigkiemkhdclaaGreatDoor

/- The contract of term.Put: a copy with another term at a path (putC). -/
namespace Go.Proofs.YtiigkiemkhdclaaGreatDoor
open Go.RowKit Go.Shelf Go.Maps

/-- Where the part at a path lies. -/
def addrT : List Int → {n : Nat} → Tm n → Nat → Nat → Option (Nat × Nat)
  | [], _, _, b, o => some (b, o)
  | _ :: _, 0, t, _, _ => Empty.elim t
  | k :: r, _ + 1, t, _, _ => if 0 ≤ k ∧ k < (t.kids.length : Int) then (t.kids[k.toNat]?).bind fun u => t.tv.a.bind fun ad => addrT r u ad.block (ad.off + k.toNat * 4) else none
theorem addrT_go {k : Int} {r : List Int} {n : Nat} {t : Tm (n + 1)} {u : Tm n} {j bk off b o : Nat} (hk : k = (j : Nat)) (hu : t.kids[j]? = some u) (ha : t.tv.a = some ⟨bk, off, none⟩) : addrT (k :: r) t b o = addrT r u bk (off + j * 4) := by
  subst hk
  have hj := (List.getElem?_eq_some_iff.1 hu).1
  simp only [addrT]
  rw [if_pos ⟨by omega, by omega⟩, Int.toNat_natCast, hu, ha]
  rfl
theorem addrT_no {k : Int} {r : List Int} {n : Nat} {t : Tm (n + 1)} {b o : Nat} (hk : ¬ (0 ≤ k ∧ k < (t.kids.length : Int))) : addrT (k :: r) t b o = none := by
  simp only [addrT]
  rw [if_neg hk]
def ptrV : Option (Nat × Nat) → Value
  | none => .pointer none
  | some (b, o) => .pointer (some ⟨b, o, none⟩)

set_option maxRecDepth 100000 in
set_option maxHeartbeats 2000000 in
theorem placeOf_addr {n₀ n : Nat} (ns : List Int) (a : Option Addr) (len cap : Nat) (t : Tm n) (b o : Nat) (W : World) (hN : IsN W a len ns) (hc : cellsAt W b o t.tv) (hT : IsT n₀ W t) :
    Calls Tryz.prog 67 #[.pointer (some ⟨b, o, none⟩), .slice a len cap] W fun e W' => e = .returned (ptrV (addrT ns t b o)) ∧ W' = W := by
  have h1 := hN.1
  have h2 := hN.2.1
  have hl1 : len ≤ ns.length := by omega
  have hl2 : ns.length ≤ len := by omega
  clear h1
  have HN := hide hN
  clear hN
  obtain ⟨R, hR⟩ : ∃ R, addrT ns t b o = R := ⟨_, rfl⟩
  rw [hR]
  go_enter Tryz.func67, Tryz.ntmps67
  go_wp2_with fail
  go_loop [0, 9] (fun p i => ∃ (j m : Nat) (u : Tm m) (b o : Nat), j ≤ len ∧ i = .int .i64 j ∧ p = .pointer (some ⟨b, o, none⟩) ∧ cellsAt W b o u.tv ∧ IsT n₀ W u ∧ R = addrT (ns.drop j) u b o) (fun _ i => len - (intOf i).toNat)
  case atStart => exact ⟨0, n, t, b, o, Nat.zero_le _, rfl, rfl, hc, hT, hR.symm⟩
  case round =>
    obtain ⟨j, m, u, b, o, hj, rfl, rfl, hcu, hTu, hat⟩ := hrel
    clear hR
    by_cases hlt : j < len
    · obtain ⟨k, pb, off, hk, rfl, c0⟩ := num_at (unhide HN) hlt
      have hdrop : ns.drop j = k :: ns.drop (j + 1) := by
        obtain ⟨hj', hk'⟩ := List.getElem?_eq_some_iff.1 hk
        rw [List.drop_eq_getElem_cons hj', hk']
      rw [hdrop] at hat
      have hj1 : (j : Int) < len := by omega
      cases m with
      | zero => exact Empty.elim u
      | succ m =>
        obtain ⟨⟨uk, uN, us, ua, ul, uc⟩, kids⟩ := u
        obtain ⟨d0, d1, d2, d3⟩ := hcu
        obtain ⟨hlen, hmax, hsm, hkids⟩ := hTu
        simp only [Tm.tv, Tm.kids] at hlen hmax hkids d3
        by_cases hin : 0 ≤ k ∧ k < (ul : Int)
        · obtain ⟨q, hq⟩ : ∃ q : Nat, k = (q : Nat) := ⟨k.toNat, by omega⟩
          subst hq
          have hql : q < kids.length := by omega
          obtain ⟨z, hz⟩ : ∃ z, kids[q]? = some z := ⟨kids[q], List.getElem?_eq_getElem hql⟩
          have hne : kids ≠ [] := by rintro rfl; simp at hz
          obtain ⟨bk, ok, rfl, hbk, hkk⟩ := hkids.resolve_left hne
          obtain ⟨hcz, hTz⟩ := hkk q z hz
          have hnx : R = addrT (ns.drop (j + 1)) z bk (ok + q * 4) := hat.trans (addrT_go rfl hz rfl)
          have hq1 : (q : Int) < ul := by omega
          have hq0 : ¬ (q : Int) < 0 := by omega
          have hq2 : q < ul := by omega
          have HX := hide (And.intro hcz (And.intro hTz hnx))
          clear hcz hTz hnx hkk hkids hz hne hat hdrop hin hsm d0 d1 d2
          go_wp2_with fail
          exact ⟨⟨j + 1, m, z, bk, ok + q * 4, by omega, by go_num, rfl, (unhide HX).1, (unhide HX).2.1, (unhide HX).2.2⟩, by simp [intOf]; omega⟩
        · have hno : R = none := hat.trans (addrT_no (by simpa [Tm.kids, ← hlen] using hin))
          have HNO := hide hno
          clear hno hat hdrop hkids hsm d0 d1 d2
          by_cases hk0 : k < 0
          · go_wp2_with fail
            go_ret
            exact ⟨by rw [unhide HNO]; rfl, rfl⟩
          · have hk1 : (ul : Int) ≤ k := by omega
            go_wp2_with fail
            go_ret
            exact ⟨by rw [unhide HNO]; rfl, rfl⟩
    · have hd : ns.drop j = [] := List.drop_of_length_le (by omega)
      rw [hd] at hat
      have HAT := hide hat
      clear hat hd
      go_wp2_with fail
      go_ret
      exact ⟨by rw [unhide HAT]; rfl, rfl⟩

theorem addr_none : ∀ (ns : List Int) {n : Nat} {t : Tm n} {n₀ b o : Nat} {W : World}, IsT n₀ W t → (addrT ns t b o = none ↔ atT ns t = none)
  | [], _, _, _, _, _, _, _ => by simp [addrT, atT]
  | _ :: _, 0, t, _, _, _, _, _ => Empty.elim t
  | k :: r, n + 1, t, n₀, b, o, W, hT => by
    by_cases hin : 0 ≤ k ∧ k < (t.kids.length : Int)
    · obtain ⟨q, hq⟩ : ∃ q : Nat, k = (q : Nat) := ⟨k.toNat, by omega⟩
      obtain ⟨z, hz⟩ : ∃ z, t.kids[q]? = some z := ⟨t.kids[q]'(by omega), List.getElem?_eq_getElem (by omega)⟩
      obtain ⟨_, _, _, h4⟩ := hT
      have hne : t.kids ≠ [] := fun e => by rw [e] at hz; simp at hz
      obtain ⟨bk, off, ha, _, hk⟩ := h4.resolve_left hne
      rw [addrT_go hq hz ha, atT_go hq hz]
      exact addr_none r (hk q z hz).2
    · rw [addrT_no hin, atT_no hin]
      simp
theorem blks_cons {n : Nat} {t : Tm (n + 1)} {bk off : Nat} (hne : t.kids ≠ []) (ha : t.tv.a = some ⟨bk, off, none⟩) : blks t = bk :: t.kids.flatMap blks := by
  show (if t.kids = [] then [] else (t.tv.a.map Addr.block).toList) ++ t.kids.flatMap blks = _
  rw [if_neg hne, ha]
  rfl
/-- The place is at the term's own address, or in one of its blocks. -/
theorem addr_in : ∀ (ns : List Int) {n : Nat} {t : Tm n} {n₀ b o b' o' : Nat} {W : World}, IsT n₀ W t → addrT ns t b o = some (b', o') → (b' = b ∧ o' = o) ∨ b' ∈ blks t
  | [], _, _, _, _, _, _, _, _, _, h => by simp [addrT] at h; exact .inl ⟨h.1.symm, h.2.symm⟩
  | _ :: _, 0, t, _, _, _, _, _, _, _, _ => Empty.elim t
  | k :: r, n + 1, t, n₀, b, o, b', o', W, hT, h => by
    by_cases hin : 0 ≤ k ∧ k < (t.kids.length : Int)
    · obtain ⟨q, hq⟩ : ∃ q : Nat, k = (q : Nat) := ⟨k.toNat, by omega⟩
      obtain ⟨z, hz⟩ : ∃ z, t.kids[q]? = some z := ⟨t.kids[q]'(by omega), List.getElem?_eq_getElem (by omega)⟩
      obtain ⟨_, _, _, h4⟩ := hT
      have hne : t.kids ≠ [] := fun e => by rw [e] at hz; simp at hz
      obtain ⟨bk, off, ha, _, hk⟩ := h4.resolve_left hne
      rw [addrT_go hq hz ha] at h
      rw [blks_cons hne ha]
      rcases addr_in r (hk q z hz).2 h with ⟨rfl, _⟩ | h
      · exact .inr List.mem_cons_self
      · exact .inr (List.mem_cons_of_mem _ (List.mem_flatMap.2 ⟨z, List.mem_of_getElem? hz, h⟩))
    · rw [addrT_no hin] at h
      cases h
theorem blkT_of {b' : Nat} : ∀ {n : Nat} {t : Tm n} {n₀ : Nat} {W : World}, IsT n₀ W t → b' ∉ blks t → BlkT (fun b => b ≠ b') t := by
  intro n
  induction n with
  | zero => intro t; exact Empty.elim t
  | succ n ih =>
    intro t n₀ W hT hb
    obtain ⟨_, _, _, h4⟩ := hT
    by_cases hne : t.kids = []
    · exact ⟨.inl hne, fun u hu => by rw [hne] at hu; cases hu⟩
    · obtain ⟨bk, off, ha, _, hk⟩ := h4.resolve_left hne
      rw [blks_cons hne ha] at hb
      refine ⟨.inr ⟨bk, off, ha, fun e => hb (by rw [e]; exact List.mem_cons_self)⟩, fun u hu => ?_⟩
      obtain ⟨i, hi⟩ := List.mem_iff_getElem?.1 hu
      exact ih (hk i u hi).2 fun h => hb (List.mem_cons_of_mem _ (List.mem_flatMap.2 ⟨u, hu, h⟩))
theorem blkT_in : ∀ {n : Nat} {t : Tm n} {n₀ : Nat} {W : World} {S : Nat → Prop}, IsT n₀ W t → (∀ b ∈ blks t, S b) → BlkT S t := by
  intro n
  induction n with
  | zero => intro t; exact Empty.elim t
  | succ n ih =>
    intro t n₀ W S hT hb
    obtain ⟨_, _, _, h4⟩ := hT
    by_cases hne : t.kids = []
    · exact ⟨.inl hne, fun u hu => by rw [hne] at hu; cases hu⟩
    · obtain ⟨bk, off, ha, _, hk⟩ := h4.resolve_left hne
      rw [blks_cons hne ha] at hb
      refine ⟨.inr ⟨bk, off, ha, hb _ List.mem_cons_self⟩, fun u hu => ?_⟩
      obtain ⟨i, hi⟩ := List.mem_iff_getElem?.1 hu
      exact ih (hk i u hi).2 fun b h => hb b (List.mem_cons_of_mem _ (List.mem_flatMap.2 ⟨u, hu, h⟩))
theorem lift_toS {n₀ : Nat} {S : Nat → Prop} {W : World} {n : Nat} {t : Tm n} (hT : IsT n₀ W t) (hS : BlkT S t) : ∀ M, n ≤ M → ∃ t' : Tm M, t'.tv = t.tv ∧ IsT n₀ W t' ∧ BlkT S t' ∧ code t' = code t := fun M hM => by
  obtain ⟨k, rfl⟩ : ∃ k, M = n + k := ⟨M - n, by omega⟩
  clear hM
  induction k with
  | zero => exact ⟨t, rfl, hT, hS, rfl⟩
  | succ k ih =>
    obtain ⟨t', h1, h2, h3, h4⟩ := ih
    exact ⟨t'.lift, by rw [lift_tv]; exact h1, lift_isT h2, lift_blk h3, by rw [lift_code]; exact h4⟩
theorem build {n M : Nat} : ∀ (kids : List (Tm n)) (P : Nat → Tm n → Tm M → Prop), (∀ (i : Nat) v, kids[i]? = some v → ∃ v', P i v v') → ∃ ks : List (Tm M), ks.length = kids.length ∧ ∀ (i : Nat) v v', kids[i]? = some v → ks[i]? = some v' → P i v v'
  | [], P, _ => ⟨[], rfl, fun i v v' h => by simp at h⟩
  | u :: kids, P, h => by
    obtain ⟨u', hu⟩ := h 0 u rfl
    obtain ⟨ks, h1, h2⟩ := build kids (fun i => P (i + 1)) (fun i v hv => h (i + 1) v (by simpa using hv))
    refine ⟨u' :: ks, by simp [h1], fun i v v' hv hv' => ?_⟩
    cases i with
    | zero => simp at hv hv'; subst hv; subst hv'; exact hu
    | succ i => exact h2 i v v' (by simpa using hv) (by simpa using hv')
theorem code_zip {n M : Nat} {g : Tm n × Nat → List Nd} : ∀ (kids : List (Tm n)) (ks : List (Tm M)) (s : Nat), ks.length = kids.length → (∀ (i : Nat) v v', kids[i]? = some v → ks[i]? = some v' → code v' = g (v, s + i)) → ks.flatMap code = (kids.zipIdx s).flatMap g
  | [], [], _, _, _ => rfl
  | [], _ :: _, _, h, _ => by simp at h
  | _ :: _, [], _, h, _ => by simp at h
  | v :: kids, v' :: ks, s, hl, h => by
    rw [List.flatMap_cons, List.zipIdx_cons, List.flatMap_cons, h 0 v v' rfl rfl]
    congr 1
    exact code_zip kids ks (s + 1) (by simpa using hl) fun i a a' ha ha' => by
      have := h (i + 1) a a' (by simpa using ha) (by simpa using ha')
      rw [show s + 1 + i = s + (i + 1) by omega]
      exact this

theorem nodup_mem {α β : Type} {f : α → List β} : ∀ (l : List α), (l.flatMap f).Nodup → ∀ v ∈ l, (f v).Nodup
  | [], _, v, hv => by cases hv
  | a :: l, h, v, hv => by
    rw [List.flatMap_cons, List.nodup_append] at h
    rcases List.mem_cons.1 hv with rfl | hv
    · exact h.1
    · exact nodup_mem l h.2.1 v hv
theorem nodup_dis {α β : Type} {f : α → List β} : ∀ (l : List α), (l.flatMap f).Nodup → ∀ (i j : Nat) v z, l[i]? = some v → l[j]? = some z → i ≠ j → ∀ x ∈ f v, x ∉ f z
  | [], _, i, _, _, _, hi, _, _, _, _ => by simp at hi
  | a :: l, h, i, j, v, z, hi, hj, hne, x, hx => by
    rw [List.flatMap_cons, List.nodup_append] at h
    cases i with
    | zero =>
      cases j with
      | zero => exact (hne rfl).elim
      | succ j =>
        simp at hi hj
        subst hi
        exact fun hz => h.2.2 x hx x (List.mem_flatMap.2 ⟨z, List.mem_of_getElem? hj, hz⟩) rfl
    | succ i =>
      simp only [List.getElem?_cons_succ] at hi
      cases j with
      | zero =>
        simp at hj
        subst hj
        exact fun hz => h.2.2 x hz x (List.mem_flatMap.2 ⟨v, List.mem_of_getElem? hi, hx⟩) rfl
      | succ j =>
        simp only [List.getElem?_cons_succ] at hj
        exact nodup_dis l h.2.1 i j v z hi hj (by omega) x hx

/-- What is written at the place of a path stands there; all else is as it was. -/
theorem put_world {N D : Nat} {S : Nat → Prop} {W : World} {y : TV} {cy : List Nd} {b' o' : Nat} (hyy : ∀ m, D ≤ m → ∃ y' : Tm m, y'.tv = y ∧ IsT N (set4 W b' o' y) y' ∧ code y' = cy ∧ BlkT S y') :
    ∀ (ns : List Int) {n : Nat} {t : Tm n} {n₀ b o : Nat}, n₀ ≤ N → IsT n₀ W t → cellsAt W b o t.tv → (blks t).Nodup → b ∉ blks t → (∀ x ∈ blks t, S x) → addrT ns t b o = some (b', o') →
      ∀ m, n + D ≤ m → ∃ t' : Tm m, cellsAt (set4 W b' o' y) b o t'.tv ∧ IsT N (set4 W b' o' y) t' ∧ code t' = putC ns t cy ∧ BlkT S t' := by
  intro ns
  induction ns with
  | nil =>
    intro n t n₀ b o hN hT hc hnd hb hSt had m hm
    simp only [addrT, Option.some.injEq, Prod.mk.injEq] at had
    obtain ⟨rfl, rfl⟩ := had
    obtain ⟨y', h1, h2, h3, h5⟩ := hyy m (by omega)
    refine ⟨y', ?_, h2, h3, h5⟩
    rw [h1]
    obtain ⟨c0, c1, c2, c3⟩ := hc
    exact set4_cells W b o y (by rw [c0]; rfl) (by rw [c1]; rfl) (by rw [c2]; rfl) (by rw [c3]; rfl)
  | cons k r ih =>
    intro n t n₀ b o hN hT hc hnd hb hSt had m hm
    cases n with
    | zero => exact Empty.elim t
    | succ n =>
      by_cases hin : 0 ≤ k ∧ k < (t.kids.length : Int)
      · obtain ⟨q, hq⟩ : ∃ q : Nat, k = (q : Nat) := ⟨k.toNat, by omega⟩
        obtain ⟨z, hz⟩ : ∃ z, t.kids[q]? = some z := ⟨t.kids[q]'(by omega), List.getElem?_eq_getElem (by omega)⟩
        obtain ⟨g1, g2, g3, h4⟩ := hT
        have hne : t.kids ≠ [] := fun e => by rw [e] at hz; simp at hz
        obtain ⟨bk, off, ha, hbk, hk⟩ := h4.resolve_left hne
        rw [addrT_go hq hz ha] at had
        have hbl := blks_cons hne ha
        rw [hbl] at hnd hb hSt
        rw [List.nodup_cons] at hnd
        obtain ⟨hbk1, hnd2⟩ := hnd
        have hsub : ∀ {i : Nat} {v : Tm n}, t.kids[i]? = some v → ∀ x ∈ blks v, x ∈ t.kids.flatMap blks := fun hv x hx => List.mem_flatMap.2 ⟨_, List.mem_of_getElem? hv, hx⟩
        have hndz : ∀ {i : Nat} {v : Tm n}, t.kids[i]? = some v → (blks v).Nodup := fun {i v} hv => nodup_mem _ hnd2 v (List.mem_of_getElem? hv)
        have hdis : ∀ {i : Nat} {v : Tm n}, t.kids[i]? = some v → i ≠ q → ∀ x ∈ blks v, x ∉ blks z := fun {i v} hv hi x hx => nodup_dis _ hnd2 i q v z hv hz hi x hx
        obtain ⟨hcz, hTz⟩ := hk q z hz
        have hbin := addr_in r hTz had
        have hb'in : b' = bk ∨ b' ∈ blks z := by rcases hbin with ⟨h, _⟩ | h
                                                 · exact .inl h
                                                 · exact .inr h
        have hbne : b ≠ b' := fun e => hb (by
          rcases hb'in with h | h
          · rw [e, h]; exact List.mem_cons_self
          · rw [e]; exact List.mem_cons_of_mem _ (hsub hz _ h))
        obtain ⟨M, rfl⟩ : ∃ M, m = M + 1 := ⟨m - 1, by omega⟩
        obtain ⟨z', z1, z2, z3, z4⟩ := ih hN hTz hcz (hndz hz) (fun h => hbk1 (hsub hz _ h)) (fun x hx => hSt x (List.mem_cons_of_mem _ (hsub hz x hx))) had M (by omega)
        obtain ⟨ks, hkl, hks⟩ := build (M := M) t.kids (fun i v v' => cellsAt (set4 W b' o' y) bk (off + i * 4) v'.tv ∧ IsT N (set4 W b' o' y) v' ∧ (code v' = if i = q then putC r v cy else code v) ∧ BlkT S v') (fun i v hv => by
          by_cases hi : i = q
          · subst hi
            rw [hz] at hv
            cases hv
            exact ⟨z', z1, z2, (by rw [if_pos rfl]; exact z3), z4⟩
          · obtain ⟨hcv, hTv⟩ := hk i v hv
            have hnot : b' ∉ blks v := fun h => by
              rcases hb'in with e | e
              · exact hbk1 (e ▸ hsub hv _ h)
              · exact hdis hv hi _ h e
            obtain ⟨v', v1, v2, v3, v4⟩ := lift_toS hTv ((blkT_of hTv hnot).and (blkT_in hTv (S := S) fun x hx => hSt x (List.mem_cons_of_mem _ (hsub hv x hx)))) M (by omega)
            refine ⟨v', ?_, (v2.fromS (fun x hx => set4_other W b' o' y hx.1) v3).mono hN, (by rw [if_neg hi]; exact v4), v3.mono fun _ h => h.2⟩
            rw [v1]
            rcases hbin with ⟨e1, e2⟩ | e
            · rw [e1, e2]
              exact ⟨(set4_far W bk _ y (by omega)).trans hcv.1, (set4_far W bk _ y (by omega)).trans hcv.2.1, (set4_far W bk _ y (by omega)).trans hcv.2.2.1, (set4_far W bk _ y (by omega)).trans hcv.2.2.2⟩
            · exact hcv.kept (set4_other W b' o' y fun e' => hbk1 (e' ▸ hsub hz _ e)))
        refine ⟨((t.tv, ks) : TV × List (Tm M)), hc.kept (set4_other W b' o' y hbne), ⟨by rw [show Tm.kids (n := M) (t.tv, ks) = ks from rfl, hkl]; exact g1, g2, g3, .inr ⟨bk, off, ha, by omega, fun j u hu => ?_⟩⟩, ?_⟩
        · have hju : ks[j]? = some u := hu
          obtain ⟨v, hv⟩ : ∃ v, t.kids[j]? = some v := ⟨t.kids[j]'(by have := (List.getElem?_eq_some_iff.1 hju).1; omega), List.getElem?_eq_getElem _⟩
          obtain ⟨k1, k2, _⟩ := hks j v u hv hju
          exact ⟨k1, k2⟩
        · refine ⟨?_, .inr ⟨bk, off, ha, hSt _ List.mem_cons_self⟩, fun u hu => ?_⟩
          rotate_left
          · obtain ⟨j, hju⟩ := List.mem_iff_getElem?.1 hu
            have hju : ks[j]? = some u := hju
            obtain ⟨v, hv⟩ : ∃ v, t.kids[j]? = some v := ⟨t.kids[j]'(by have := (List.getElem?_eq_some_iff.1 hju).1; omega), List.getElem?_eq_getElem _⟩
            exact (hks j v u hv hju).2.2.2
          rw [code_succ, code_zip (g := fun p : Tm n × Nat => if p.2 = q then putC r p.1 cy else code p.1) t.kids ks 0 hkl (fun i v v' hv hv' => by simpa using (hks i v v' hv hv').2.2.1)]
          subst hq
          simp only [putC, putL, Int.toNat_natCast]
      · rw [addrT_no hin] at had
        cases had
end Go.Proofs.YtiigkiemkhdclaaGreatDoor

