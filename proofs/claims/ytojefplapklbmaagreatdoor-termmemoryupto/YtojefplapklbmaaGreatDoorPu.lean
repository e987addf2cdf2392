import Derived.Test.YtojefplapklbmaaGreatDoorLa
import Derived.Test.YtojefplapklbmaaGreatDoorSws
import Derived.Test.YtojefplapklbmaaGreatDoorGrs
/- The contract of hornref.Put: another term at a path (putC). -/
namespace Go.Proofs.YtojefplapklbmaaGreatDoor
open Go.RowKit Go.Shelf Go.Maps

/-- What stands in a row where the q-th gives way. -/
def putL {n : Nat} (q : Nat) (f : Tm n → List Nd) (kids : List (Tm n)) : List Nd := kids.zipIdx.flatMap fun p => if p.2 = q then f p.1 else code p.1
/-- The code of a term with another one at a path. -/
def putC : List Int → {n : Nat} → Tm n → List Nd → List Nd
  | [], _, _, c => c
  | _ :: _, 0, t, _ => Empty.elim t
  | k :: r, _ + 1, t, c => t.tv.nd :: putL k.toNat (fun u => putC r u c) t.kids
theorem zip_take {n : Nat} {g : Tm n × Nat → List Nd} {kids : List (Tm n)} {j : Nat} {u : Tm n} (h : kids[j]? = some u) : (kids.zipIdx.take (j + 1)).flatMap g = (kids.zipIdx.take j).flatMap g ++ g (u, j) := by
  obtain ⟨hj, rfl⟩ := List.getElem?_eq_some_iff.1 h
  rw [List.take_succ_eq_append_getElem (by simpa using hj), List.flatMap_append, List.flatMap_cons, List.flatMap_nil, List.append_nil]
  simp
/-- What Put answers. -/
def PutSays (D ns : Nat) (W : World) (c : List Nd) (e : Ending) (W' : World) : Prop := ∃ x : TV, e = .returned x.val ∧ Below W.heap.size W W' ∧ HoldsS D (Mix ns W.heap.size) W' x.val c

set_option maxRecDepth 100000 in
set_option maxHeartbeats 2000000 in
theorem rput_nil {n d ns : Nat} (t : Tm n) (u : Tm d) (a : Option Addr) (cap : Nat) (W : World) (hu : IsT ns W u) (hns : ns ≤ W.heap.size) :
    Calls Tryz.prog 50 #[t.tv.val, .slice a 0 cap, u.tv.val] W (PutSays d ns W (code u)) := by
  obtain ⟨W3, hW3, hB3, hba, hbb, hbz, hsz⟩ := three_z W t.tv u.tv
  have d0 := hbb.c0
  have d1 := hbb.c1
  have d2 := hbb.c2
  have d3 := hbb.c3
  obtain ⟨⟨z0, z1, z2, z3⟩, y0, y1, y2, y3⟩ := zbox_kept hbz
  have hu3 : IsT ns W3 u := hu.below (hB3.mono hns)
  have hfin : HoldsS d (Mix ns W.heap.size) (set4 W3 (W.heap.size + 2) 0 u.tv) u.tv.val (code u) := by
    have hs : ns ≤ W3.heap.size := Nat.le_trans hns hB3.size
    have h1 : IsT ns (set4 W3 (W.heap.size + 2) 0 u.tv) u := hu3.fromS (fun b hb => set4_other _ _ 0 u.tv (by omega)) hu3.blk
    exact (holdsS_of (h1.mono (by rw [set4_size]; exact hs)) h1.blk).mono (Nat.le_refl _) (fun b hb => .inl hb)
  have hbf : Below W.heap.size W (set4 W3 (W.heap.size + 2) 0 u.tv) := set4_below hB3 (by omega) 0 _
  have HF := hide hfin
  have HBF := hide hbf
  clear hfin hbf hu hu3 hba hbb hB3 hbz hsz
  simp only [TV.val]
  go_enter Tryz.func50, Tryz.ntmps50
  go_wp2_with fail
  exact bodyPost_ret (v := u.tv.val) (by simp [results, Tryz.results50, go_sem, TV.val, z0, z1, z2, z3]) rfl ⟨u.tv, rfl, unhide HBF, unhide HF⟩

set_option maxRecDepth 100000 in
set_option maxHeartbeats 4000000 in
theorem rput_comp {n d ns D q : Nat} (u : Tm d) (f : Tm n → List Nd) (tk tN : Int) (ts : ByteArray) (ta : Option Addr) (tl tc pb off0 len cap : Nat) (kids : List (Tm n)) (W : World) (A : Option Addr) (hA : (if cap = 1 then some (⟨pb, off0, none⟩ : Addr) else some ⟨pb, off0 + 1, none⟩) = A)
    (hz : ∀ (z : Tm n) (W2 : World), kids[q]? = some z → Below W.heap.size W W2 → Calls Tryz.prog 50 #[z.tv.val, .slice A (len - 1) (cap - 1), u.tv.val] W2 (PutSays D ns W2 (f z)))
    (hpb : pb < W.heap.size) (hp0 : W.cell? ⟨pb, off0, none⟩ = some (.int .i64 (q : Nat))) (hlen1 : 1 ≤ len) (_hcap : len ≤ cap) (hD : n ≤ D)
    (hu : IsT ns W u) (hns : ns ≤ W.heap.size) (hlen : tl = kids.length) (hl50 : tl ≤ 50) (hs : ts.size ≤ 9223372036854775807) (hq : q < tl)
    (hkids : kids = [] ∨ ∃ b off, ta = some ⟨b, off, none⟩ ∧ b < ns ∧ ∀ j v, kids[j]? = some v → cellsAt W b (off + j * 4) v.tv ∧ IsT ns W v) :
    Calls Tryz.prog 50 #[.agg #[.int .i64 tk, .int .i64 tN, .string ts, .slice ta tl tc], .slice (some ⟨pb, off0, none⟩) len cap, u.tv.val] W (PutSays (D + 1) ns W ((tk, tN, ts.toList, tl) :: putL q f kids)) := by
  have hl1 : tl ≤ kids.length := by omega
  have hl2 : kids.length ≤ tl := by omega
  have hlz : ((len : Int) == 0) = false := by simp; omega
  have hl0n : 0 < len := by omega
  have hl0 : (0 : Int) < len := by omega
  have hle1 : (1 : Int) ≤ len := by omega
  obtain ⟨W3, hW3, hB3, hba, hbb, hbz, hsz⟩ := three_z W ⟨tk, tN, ts, ta, tl, tc⟩ u.tv
  simp only at hW3
  obtain ⟨i0, hi, hz0, hz1, hz2⟩ := info_parts Tryz.info28
  have HZ := hide hz
  have HU := hide hu
  have HB3 := hide hB3
  have HBA := hide hba
  have HBB := hide hbb
  have HBZ := hide hbz
  have HSZ := hide hsz
  have HP0 := hide hp0
  clear hz hu hB3 hba hbb hbz hsz hlen hp0
  go_enter Tryz.func50, Tryz.ntmps50
  simp only [TV.val]
  go_wp2_with fail
  clear hW3
  go_loopw [7, 8] (fun av i wr => ∃ (j : Nat) (l : List TV), j ≤ tl ∧ i = .int .i64 j ∧ l.length = j ∧ Below (W.heap.size + 3) W3 wr ∧ Made D (Mix ns (W.heap.size + 3)) (W.heap.size + 3) wr av l ((kids.zipIdx.take j).flatMap fun p => if p.2 = q then f p.1 else code p.1)) (fun _ i _ => tl - (intOf i).toNat)
  case atStart => exact ⟨0, [], Nat.zero_le _, rfl, rfl, Below.refl _ _, by simpa using Made.zero _ _ _ _⟩
  case round =>
    obtain ⟨j, l, hj, rfl, hll, hb, hm⟩ := hrel
    have hsz := unhide HSZ
    have hbs := hb.size
    have hbw : Below W.heap.size W wr := (unhide HB3).trans (hb.mono (by omega))
    have hbar : BoxT wr W.heap.size ⟨tk, tN, ts, ta, tl, tc⟩ := (hb.block _ (by omega)).trans (unhide HBA)
    have hbbr : BoxT wr (W.heap.size + 1) u.tv := (hb.block _ (by omega)).trans (unhide HBB)
    have hbzr := (hb.block (W.heap.size + 2) (by omega)).trans (unhide HBZ)
    have b3 := hbar.c3
    simp only at b3
    have p0 : wr.cell? ⟨pb, off0, none⟩ = some (.int .i64 (q : Nat)) := (hbw.cell (p := ⟨pb, off0, none⟩) hpb).trans (unhide HP0)
    have HM := hide hm
    have HLL := hide hll
    clear hll
    obtain ⟨va, vc, rfl⟩ := row_slice hm.owns
    by_cases hlt : j < tl
    · obtain ⟨z, bk, off, hz', rfl, ⟨c0, c1, c2, c3⟩, hT, hbk2⟩ := kid_below hkids (hbw.mono hns) hlt hl1
      have hj1 : (j : Int) < tl := by omega
      have hzt := zip_take (g := fun p : Tm n × Nat => if p.2 = q then f p.1 else code p.1) hz'
      have hy0 : W.heap.size < wr.heap.size := by omega
      have hy1 : W.heap.size + 1 < wr.heap.size := by omega
      have hy2 : bk < wr.heap.size := by omega
      have hx0 : W.heap.size < W.heap.size + 3 := by omega
      have hx1 : W.heap.size + 1 < W.heap.size + 3 := by omega
      have hx2 : bk < W.heap.size + 3 := by omega
      have hpb2 : pb < wr.heap.size := by omega
      by_cases hjq : j = q
      · subst hjq
        rw [if_pos rfl] at hzt
        have hjq' : ((j : Int) == (j : Int)) = true := by simp
        have ihu := ((unhide HZ) z wr.drew hz' hbw.drew).mono
          (R' := fun e W5 => ∃ x : TV, e = .returned x.val ∧ Below wr.heap.size wr W5 ∧ HoldsS D (Mix ns wr.heap.size) W5 x.val (f z)) (fun e W5 h => by
            obtain ⟨x, g1, g2, g3⟩ := h
            exact ⟨x, g1, (Below.refl _ wr).drew.trans g2, g3⟩)
        have e0 := hbbr.c0
        have e1 := hbbr.c1
        have e2 := hbbr.c2
        have e3 := hbbr.c3
        have HZT := hide hzt
        clear hkids hT hz' hzt hm hbar hbbr hbzr
        simp only [TV.val] at ihu
        go_wp2_with fail
        refine wp_region_noPanic ?_
        refine wp_region_held_drew (S := (fun w' => w'.cell? ⟨W.heap.size, 3, none⟩ = some (.slice (some ⟨bk, off, none⟩) tl tc) ∧ w'.cell? ⟨bk, off + j * 4, none⟩ = some (.int .i64 z.tv.k) ∧ w'.cell? ⟨bk, off + j * 4 + 1, none⟩ = some (.int .i64 z.tv.N) ∧ w'.cell? ⟨bk, off + j * 4 + 2, none⟩ = some (.string z.tv.s) ∧ w'.cell? ⟨bk, off + j * 4 + 3, none⟩ = some (.slice z.tv.a z.tv.len z.tv.cap) ∧ w'.cell? ⟨W.heap.size + 1, 0, none⟩ = some (.int .i64 u.tv.k) ∧ w'.cell? ⟨W.heap.size + 1, 1, none⟩ = some (.int .i64 u.tv.N) ∧ w'.cell? ⟨W.heap.size + 1, 2, none⟩ = some (.string u.tv.s) ∧ w'.cell? ⟨W.heap.size + 1, 3, none⟩ = some (.slice u.tv.a u.tv.len u.tv.cap))) (by kernel_rfl) ?_ (fun hHeld => ?_)
        · go_keep
        refine wpAnyH_take (i := 0) (oi := { dst := some 25, op := Op.move (Operand.tmp 7), type := 22, pos := "term.go:318", after := #[], guard := none }) (v := ?_) rfl (by kernel_rfl) (by kernel_rfl) (by kernel_rfl) (fun _ _ _ h => h) (Or.inl ⟨by rfl, ?_⟩) hHeld ?_
        rotate_left
        · (intro w' hSw; (try dsimp only at hSw); go_simp; try with_reducible rfl)
        try simp only [Act.put, List.setIfInBounds_toArray, List.set_cons_zero, List.set_cons_succ]
        refine wpAnyH_take (i := 1) (oi := { dst := some 26, op := Op.fieldAddr 24 (Operand.tmp 3) 3, type := 0, pos := "term.go:318", after := #[], guard := none }) (v := ?_) rfl (by kernel_rfl) (by kernel_rfl) (by kernel_rfl) (fun _ _ _ h => h) (Or.inl ⟨by rfl, ?_⟩) hHeld ?_
        rotate_left
        · (intro w' hSw; (try dsimp only at hSw); go_simp; try with_reducible rfl)
        try simp only [Act.put, List.setIfInBounds_toArray, List.set_cons_zero, List.set_cons_succ]
        refine wpAnyH_take (i := 2) (oi := { dst := some 27, op := Op.load 22 (Operand.tmp 26), type := 22, pos := "term.go:318", after := #[{ on := 1, ground := Ground.data }], guard := none }) (v := ?_) rfl (by kernel_rfl) (by kernel_rfl) (by kernel_rfl) (fun _ _ _ h => h) (Or.inl ⟨by rfl, ?_⟩) hHeld ?_
        rotate_left
        · (intro w' hSw; (try dsimp only at hSw); go_simp; try with_reducible rfl)
        try simp only [Act.put, List.setIfInBounds_toArray, List.set_cons_zero, List.set_cons_succ]
        refine wpAnyH_take (i := 3) (oi := { dst := some 28, op := Op.move (Operand.tmp 8), type := 3, pos := "term.go:318", after := #[], guard := none }) (v := ?_) rfl (by kernel_rfl) (by kernel_rfl) (by kernel_rfl) (fun _ _ _ h => h) (Or.inl ⟨by rfl, ?_⟩) hHeld ?_
        rotate_left
        · (intro w' hSw; (try dsimp only at hSw); go_simp; try with_reducible rfl)
        try simp only [Act.put, List.setIfInBounds_toArray, List.set_cons_zero, List.set_cons_succ]
        refine wpAnyH_take (i := 4) (oi := { dst := some 29, op := Op.indexAddr 22 (Operand.tmp 27) (Operand.tmp 28), type := 0, pos := "term.go:318", after := #[{ on := 2, ground := Ground.data }, { on := 3, ground := Ground.data }], guard := none }) (v := ?_) rfl (by kernel_rfl) (by kernel_rfl) (by kernel_rfl) (fun _ _ _ h => h) (Or.inl ⟨by rfl, ?_⟩) hHeld ?_
        rotate_left
        · (intro w' hSw; (try dsimp only at hSw); go_simp; try with_reducible rfl)
        try simp only [Act.put, List.setIfInBounds_toArray, List.set_cons_zero, List.set_cons_succ]
        refine wpAnyH_take (i := 5) (oi := { dst := some 30, op := Op.load 24 (Operand.tmp 29), type := 24, pos := "term.go:318", after := #[{ on := 4, ground := Ground.data }], guard := none }) (v := ?_) rfl (by kernel_rfl) (by kernel_rfl) (by kernel_rfl) (fun _ _ _ h => h) (Or.inl ⟨by rfl, ?_⟩) hHeld ?_
        rotate_left
        · (intro w' hSw; (try dsimp only at hSw); go_simp; try with_reducible rfl)
        try simp only [Act.put, List.setIfInBounds_toArray, List.set_cons_zero, List.set_cons_succ]
        refine wpAnyH_take (i := 6) (oi := { dst := some 31, op := Op.move (Operand.tmp 1), type := 25, pos := "term.go:318", after := #[], guard := none }) (v := ?_) rfl (by kernel_rfl) (by kernel_rfl) (by kernel_rfl) (fun _ _ _ h => h) (Or.inl ⟨by rfl, ?_⟩) hHeld ?_
        rotate_left
        · (intro w' hSw; (try dsimp only at hSw); go_simp; try with_reducible rfl)
        try simp only [Act.put, List.setIfInBounds_toArray, List.set_cons_zero, List.set_cons_succ]
        refine wpAnyH_take (i := 7) (oi := { dst := some 32, op := Op.slice 25 (Operand.tmp 31) (some (Operand.const (Value.int IntKind.i64 1))) none none, type := 25, pos := "term.go:318", after := #[{ on := 6, ground := Ground.data }], guard := none }) (v := ?_) rfl (by kernel_rfl) (by kernel_rfl) (by kernel_rfl) (fun _ _ _ h => h) (Or.inl ⟨by rfl, ?_⟩) hHeld ?_
        rotate_left
        · (intro w' hSw; (try dsimp only at hSw); go_simp; try with_reducible rfl)
        try simp only [Act.put, List.setIfInBounds_toArray, List.set_cons_zero, List.set_cons_succ]
        refine wpAnyH_take (i := 8) (oi := { dst := some 33, op := Op.load 24 (Operand.tmp 5), type := 24, pos := "term.go:318", after := #[], guard := none }) (v := ?_) rfl (by kernel_rfl) (by kernel_rfl) (by kernel_rfl) (fun _ _ _ h => h) (Or.inl ⟨by rfl, ?_⟩) hHeld ?_
        rotate_left
        · (intro w' hSw; (try dsimp only at hSw); go_simp; try with_reducible rfl)
        try simp only [Act.put, List.setIfInBounds_toArray, List.set_cons_zero, List.set_cons_succ]
        refine wpAnyH_ready (rs := [9]) (by kernel_rfl) (by simp) ?_
        refine AllReadyH.cons (o := { dst := some 34, op := Op.call { callee := Callee.value (Operand.func 50), args := #[Operand.tmp 30, Operand.tmp 32, Operand.tmp 33], argTypes := #[24, 25, 24] }, type := 24, pos := "term.go:318", after := #[{ on := 5, ground := Ground.data }, { on := 7, ground := Ground.data }, { on := 8, ground := Ground.data }], guard := none }) rfl (fun K hK => ?_) AllReadyH.nil
        have hHold := hHeld
        clear hHeld
        go_simp
        refine ihu.mono ?_
        clear ihu
        rintro e W5 ⟨x, rfl, hb5, hx⟩
        have hbc := bcell hb5
        dsimp only [TV.val]
        go_wp2_with fail
        refine hK.out _ _ ?_ (fun hHeld => ?_)
        · ((try dsimp only); go_keep)
        clear hK K hHold
        try simp only [Act.put, List.setIfInBounds_toArray, List.set_cons_zero, List.set_cons_succ]
        refine wpAnyH_ready (rs := [10]) (by kernel_rfl) (by simp) ?_
        refine AllReadyH.cons (o := { dst := some 35, op := Op.buildSlice 22 1 #[(0, Operand.tmp 34)], type := 22, pos := "term.go:318", after := #[{ on := 9, ground := Ground.data }], guard := none }) rfl (fun K hK => ?_) AllReadyH.nil
        have hHold := hHeld
        clear hHeld
        go_simp
        refine hK.out _ _ ?_ (fun hHeld => ?_)
        · ((try dsimp only); go_keep)
        clear hK K hHold
        try simp only [Act.put, List.setIfInBounds_toArray, List.set_cons_zero, List.set_cons_succ]
        refine wpAnyH_ready (rs := [11]) (by kernel_rfl) (by simp) ?_
        refine AllReadyH.cons (o := { dst := some 36, op := Op.call { callee := Callee.builtin Builtin.append, args := #[Operand.tmp 25, Operand.tmp 35], argTypes := #[22, 22] }, type := 22, pos := "term.go:318", after := #[{ on := 0, ground := Ground.data }, { on := 10, ground := Ground.data }, { on := 9, ground := Ground.chain }], guard := none }) rfl (fun K hK => ?_) AllReadyH.nil
        have hHold := hHeld
        clear hHeld
        have hs5 := hb5.size
        have hown5 : (W5.alloc (.cells #[.int .i64 x.k, .int .i64 x.N, .string x.s, .slice x.a x.len x.cap] 24)).ownsRow (W.heap.size + 3) 24 4 (.slice va l.length vc) l.length (l.flatMap TV.row) :=
          owns_below (unhide HM).owns (fun g hg => by
            have hlt := (owns_lt (unhide HM).owns hg).2
            exact (Below.heap_alloc _ _ _ (Nat.lt_of_lt_of_le hlt hb5.size)).trans (hb5.block g hlt))
        obtain ⟨u6, w6, hr6, hown6, hg6, _, hbk6⟩ := run_append_own_at (P := Tryz.prog) _ (W.heap.size + 3) 22 22 24 i0 _ 4 56 Tryz.underlying22 hi hz0 hz1 hz2 rfl (by decide) (.slice va l.length vc) l.length (l.flatMap TV.row) hown5 ⟨W5.heap.size, 0, none⟩ 1 1 x.row rfl new_cells row_one (by have := unhide HLL; unfold maxLen; omega) (by have := unhide HLL; omega) (by simp; omega)
        have hgl : ∀ g, (Value.slice va l.length vc).ownBlock = some g → W.heap.size + 3 ≤ g ∧ g < wr.heap.size := fun g hg => owns_lt (unhide HM).owns hg
        have hb6 : Below (W.heap.size + 3) W5 w6 := ((Below.refl _ W5).alloc (by omega) _).grown hg6 (by simp; omega) (fun g hg => (hgl g hg).1)
        have hbd : ∀ b o, b < W.heap.size + 3 → w6.cell? ⟨b, o, none⟩ = W5.cell? ⟨b, o, none⟩ := fun b o h => hb6.cell (p := ⟨b, o, none⟩) h
        obtain ⟨va6, vc6, rfl⟩ := row_slice hown6
        rw [if_pos (by rfl)]
        refine wp_append_row _ _ _ rfl rfl rfl hr6 ?_
        refine hK.out _ _ ?_ (fun hHeld => ?_)
        · ((try dsimp only); go_keep)
        clear hK K hHold
        try simp only [Act.put, List.setIfInBounds_toArray, List.set_cons_zero, List.set_cons_succ]
        refine wpAnyH_take (i := 12) (oi := { dst := some 7, op := Op.assign (Operand.tmp 36), type := 22, pos := "term.go:318", after := #[{ on := 11, ground := Ground.data }, { on := 11, ground := Ground.chain }, { on := 0, ground := Ground.phase }, { on := 1, ground := Ground.phase }, { on := 2, ground := Ground.phase }, { on := 3, ground := Ground.phase }, { on := 4, ground := Ground.phase }, { on := 5, ground := Ground.phase }, { on := 6, ground := Ground.phase }, { on := 7, ground := Ground.phase }, { on := 8, ground := Ground.phase }, { on := 9, ground := Ground.phase }, { on := 10, ground := Ground.phase }, { on := 11, ground := Ground.phase }], guard := none }) (v := ?_) rfl (by kernel_rfl) (by kernel_rfl) (by kernel_rfl) (fun _ _ _ h => h) (Or.inl ⟨by rfl, ?_⟩) hHeld ?_
        rotate_left
        · (intro w' hSw; (try dsimp only at hSw); go_simp; try with_reducible rfl)
        try simp only [Act.put, List.setIfInBounds_toArray, List.set_cons_zero, List.set_cons_succ]
        refine wpAnyH_done (by kernel_rfl) ?_ _
        refine NoPanic.normal ?_
        clear hbc hbd
        have hmade := (unhide HM).next hb5 (hx.mono (Nat.le_refl _) (fun b hb => ⟨by unfold Mix at hb ⊢; omega, fun e => by have := hgl b e; unfold Mix at hb; omega⟩)) hown6 hg6 (by simpa using hbk6)
        rw [← unhide HZT] at hmade
        have hbel : Below (W.heap.size + 3) W3 w6 := (hb.trans (hb5.mono (by omega))).trans hb6
        have HMF := hide hmade
        clear hmade hown6 hown5 hg6 hr6 hb6 hx hbk6 hgl
        go_wp2_with fail
        exact ⟨⟨j + 1, l ++ [x], by omega, by go_num, by simp [unhide HLL], hbel, unhide HMF⟩, by simp [intOf]; omega⟩
      · rw [if_neg hjq] at hzt
        have hjq' : ((j : Int) == (q : Int)) = false := by simp; omega
        have hjq2 : (j == q) = false := by simp [hjq]
        have hTw : IsT wr.heap.size wr z := hT.mono (by have := hbw.size; omega)
        have hx : HoldsS D (fun b => Mix ns (W.heap.size + 3) b ∧ (Value.slice va l.length vc).ownBlock ≠ some b) wr z.tv.val (code z) :=
          (holdsS_of hTw hT.blk).mono hD (fun b hb => ⟨.inl hb, fun e => by have := (owns_lt (unhide HM).owns e).1; omega⟩)
        have hown5 : (wr.alloc (.cells #[.int .i64 z.tv.k, .int .i64 z.tv.N, .string z.tv.s, .slice z.tv.a z.tv.len z.tv.cap] 24)).ownsRow (W.heap.size + 3) 24 4 (.slice va l.length vc) l.length (l.flatMap TV.row) :=
          owns_below (unhide HM).owns (fun g hg => Below.heap_alloc _ _ _ (owns_lt (unhide HM).owns hg).2)
        obtain ⟨u6, w6, hr6, hown6, hg6, _, hbk6⟩ := run_append_own_at (P := Tryz.prog) _ (W.heap.size + 3) 22 22 24 i0 _ 4 56 Tryz.underlying22 hi hz0 hz1 hz2 rfl (by decide) (.slice va l.length vc) l.length (l.flatMap TV.row) hown5 ⟨wr.heap.size, 0, none⟩ 1 1 z.tv.row rfl new_cells row_one (by have := unhide HLL; unfold maxLen; omega) (by have := unhide HLL; omega) (by simp; omega)
        have hmade := (unhide HM).next (Below.refl _ wr) hx hown6 hg6 (by simpa using hbk6)
        rw [← hzt] at hmade
        have hbel : Below (W.heap.size + 3) W3 w6 := (hb.alloc (by omega) _).grown hg6 (by simp; omega) (fun g hg => (owns_lt (unhide HM).owns hg).1)
        obtain ⟨va6, vc6, rfl⟩ := row_slice hown6
        have HMF := hide hmade
        clear hmade hown6 hown5 hg6 hbk6 hx hTw hkids hT hz' hzt hm hbar hbbr hbzr hjq
        go_wp2_with (at_builtin; go_must (refine wpList_append_row rfl _ _ _ rfl rfl rfl hr6 ?_))
        exact ⟨⟨j + 1, l ++ [z.tv], by omega, by go_num, by simp [unhide HLL], hbel, unhide HMF⟩, by simp [intOf]; omega⟩
    · have hjl : j = tl := by omega
      have ht : kids.zipIdx.take j = kids.zipIdx := List.take_of_length_le (by simp; omega)
      rw [ht] at hm
      obtain ⟨aa, cc, hv', hfin⟩ := args_end3 (k := tk) (N := tN) (s := ts) (len := tl) (by rw [unhide HLL, hjl]) hl50 hs hbw hns hm
      obtain ⟨⟨z0, z1, z2, z3⟩, y0, y1, y2, y3⟩ := zbox_kept hbzr
      have x0 := hbar.c0
      have x1 := hbar.c1
      have x2 := hbar.c2
      have x3 := hbar.c3
      simp only at x0 x1 x2 x3
      have f3 : wr.frozen? ⟨W.heap.size, 3, none⟩ = false := by simp [World.frozen?, show wr.heap[W.heap.size]? = _ from hbar]
      simp only [Value.slice.injEq] at hv'
      obtain ⟨rfl, hle, rfl⟩ := hv'
      rw [hle] at hfin ⊢
      clear hle
      obtain ⟨f1, f2⟩ := hfin
      have F1 := hide f1
      have F2 := hide f2
      have hlt' : ¬ (j : Int) < (tl : Int) := by omega
      clear f1 f2 hm ht hkids hjl hbar hbbr hbzr
      go_wp2_with fail
      refine bodyPost_ret (v := (⟨tk, tN, ts, va, tl, vc⟩ : TV).val) ?_ rfl ⟨_, rfl, unhide F1, unhide F2⟩
      simp [results, Tryz.results50, go_sem, TV.val, z0, z1, z2, z3]

/-- hornref.Put at a path that is there. -/
theorem rput_any {d ns₀ : Nat} (u : Tm d) : ∀ (ns : List Int) (n : Nat) (t : Tm n) (a : Option Addr) (len cap : Nat) (W : World), IsN W a len ns → len ≤ cap → IsT ns₀ W t → IsT ns₀ W u → ns₀ ≤ W.heap.size → okT t = true → atT ns t ≠ none →
    Calls Tryz.prog 50 #[t.tv.val, .slice a len cap, u.tv.val] W (PutSays (n + d) ns₀ W (putC ns t (code u))) := by
  intro ns
  induction ns with
  | nil =>
    intro n t a len cap W hN hcap hT hu hns hok hat
    have hl0 : len = 0 := hN.1
    subst hl0
    refine (rput_nil t u a cap W hu hns).mono fun e W' h => ?_
    obtain ⟨x, g1, g2, g3⟩ := h
    exact ⟨x, g1, g2, g3.mono (by omega) (fun _ h => h)⟩
  | cons k r ih =>
    intro n t a len cap W hN hcap hT hu hns hok hat
    cases n with
    | zero => exact Empty.elim t
    | succ n =>
      have hl0 : len = r.length + 1 := by have := hN.1; simpa using this
      obtain ⟨k', pb, off, hk', rfl, p0⟩ := num_at hN (j := 0) (by omega)
      simp at hk'
      subst hk'
      have hN' : IsN W (if cap = 1 then some ⟨pb, off, none⟩ else some ⟨pb, off + 1, none⟩) (len - 1) r := by
        obtain ⟨g1, g2, g3⟩ := hN
        refine ⟨by omega, by omega, ?_⟩
        by_cases hc1 : cap = 1
        · exact .inl (List.length_eq_zero_iff.1 (by omega))
        · rw [if_neg hc1]
          obtain ⟨b, o, he, hlt, hk⟩ := g3.resolve_left (by simp)
          simp at he
          obtain ⟨rfl, rfl⟩ := he
          exact .inr ⟨pb, off + 1, rfl, hlt, fun j N hj => by have := hk (j + 1) N (by simpa using hj); rwa [show off + (j + 1) = off + 1 + j by omega] at this⟩
      have hpb : pb < W.heap.size := by
        obtain ⟨_, _, g3⟩ := hN
        obtain ⟨b, o, he, hlt, _⟩ := g3.resolve_left (by simp)
        simp at he
        omega
      by_cases hin : 0 ≤ k ∧ k < (t.kids.length : Int)
      · obtain ⟨q, hq⟩ : ∃ q : Nat, k = (q : Nat) := ⟨k.toNat, by omega⟩
        subst hq
        obtain ⟨z, hz⟩ : ∃ z, t.kids[q]? = some z := ⟨t.kids[q]'(by omega), List.getElem?_eq_getElem (by omega)⟩
        rw [atT_go rfl hz] at hat
        obtain ⟨⟨tk, tN, ts, ta, tl, tc⟩, kids⟩ := t
        obtain ⟨hwm, hko⟩ := ok_kids hok
        obtain ⟨hlen, hmax, hsm, hkids⟩ := hT
        have hl50 : tl ≤ 50 := by
          simp only at hwm
          rcases wm_cases hwm with ⟨_, _, _, _, h⟩ | ⟨_, h⟩ | ⟨_, _, _, h⟩ <;> omega
        have hz' : kids[q]? = some z := hz
        have hne : kids ≠ [] := by rintro rfl; simp at hz'
        have hTz : ∀ v, kids[q]? = some v → IsT ns₀ W v := fun v hv => by
          obtain ⟨b, o, _, _, hk⟩ := hkids.resolve_left hne
          exact (hk q v hv).2
        have hcomp := rput_comp (n := n) (d := d) (ns := ns₀) (D := n + d) (q := q) u (fun v => putC r v (code u)) tk tN ts ta tl tc pb off len cap kids W _ rfl (fun v W2 hv hb => by
          rw [hz'] at hv
          cases hv
          exact ih n z _ (len - 1) (cap - 1) W2 (hN'.below hb) (by omega) ((hTz z hz').below (hb.mono hns)) (hu.below (hb.mono hns)) (Nat.le_trans hns hb.size) (hko z (List.mem_of_getElem? hz')) hat) hpb (by simpa using p0) (by omega) hcap (by omega) hu hns hlen hl50 hsm (by have := (List.getElem?_eq_some_iff.1 hz').1; have h2 : tl = kids.length := hlen; omega) hkids
        refine hcomp.mono fun e W' h => ?_
        obtain ⟨x, g1, g2, g3⟩ := h
        exact ⟨x, g1, g2, g3.mono (by omega) (fun _ h => h)⟩
      · exact (hat (atT_no hin)).elim
end Go.Proofs.YtojefplapklbmaaGreatDoor

