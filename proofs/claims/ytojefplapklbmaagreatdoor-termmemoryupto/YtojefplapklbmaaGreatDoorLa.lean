import Derived.Test.YtojefplapklbmaaGreatDoorUn
import Derived.Test.YtojefplapklbmaaGreatDoorGes
import Derived.Test.YtojefplapklbmaaGreatDoorSws
/- The contract of hornref.laid: a variable for each pair in the list, else the parts laid out (Gc). -/
namespace Go.Proofs.YtojefplapklbmaaGreatDoor
open Go.RowKit Go.Shelf Go.Maps

/-- As args_end, with one box more. -/
theorem args_end3 {D : Nat} {ns : Nat} {W wr : World} {k N : Int} {s : ByteArray} {len : Nat} {v : Value} {l : List TV} {c : List Nd} (hl : l.length = len) (hl50 : len ≤ 50) (hs : s.size ≤ 9223372036854775807) (hB : Below W.heap.size W wr) (hns : ns ≤ W.heap.size)
    (hm : Made D (Mix ns (W.heap.size + 3)) (W.heap.size + 3) wr v l c) :
    ∃ a' cap', v = .slice a' len cap' ∧ (let x : TV := ⟨k, N, s, a', len, cap'⟩
      Below W.heap.size W (set4 (wr.setCell ⟨W.heap.size, 3, none⟩ v) (W.heap.size + 2) 0 x) ∧ HoldsS (D + 1) (Mix ns W.heap.size) (set4 (wr.setCell ⟨W.heap.size, 3, none⟩ v) (W.heap.size + 2) 0 x) x.val ((k, N, s.toList, len) :: c)) := by
  have hoc := owns_cells hm.owns
  obtain ⟨a', cap', hv⟩ : ∃ a' cap', v = .slice a' len cap' := by
    rcases hoc with ⟨hv, hn⟩ | ⟨g, cp, hv, _⟩
    · subst hn; simp at hl; subst hl; exact ⟨none, 0, hv⟩
    · exact ⟨_, cp, by rw [hv, hl]⟩
  refine ⟨a', cap', hv, ?_⟩
  intro x
  have hother : ∀ b, b ≠ W.heap.size → b ≠ W.heap.size + 2 → (set4 (wr.setCell ⟨W.heap.size, 3, none⟩ v) (W.heap.size + 2) 0 x).heap[b]? = wr.heap[b]? := fun b h1 h2 =>
    (set4_other _ _ 0 x h2).trans (Below.heap_setCell _ _ _ _ h1)
  have hsz' : (set4 (wr.setCell ⟨W.heap.size, 3, none⟩ v) (W.heap.size + 2) 0 x).heap.size = wr.heap.size := by rw [set4_size]; simp
  refine ⟨set4_below (hB.setCell (p := ⟨W.heap.size, 3, none⟩) (Nat.le_refl _) _) (by omega) 0 x, fun m hm' hlim => ?_⟩
  obtain ⟨M, rfl⟩ : ∃ M, m = M + 1 := ⟨m - 1, by omega⟩
  obtain ⟨ks, k1, k2, k3⟩ := hm.kids M (by omega) (by omega)
  have hcl : len ≤ cap' := by
    rcases hm.owns.2 with ⟨h, hn⟩ | ⟨g, cp, cur, h, _, _, hnc, _⟩
    · omega
    · rw [hv] at h
      simp at h
      omega
  have hkl : ks.length = len := by rw [← hl, ← k1]; simp
  have hT : ∀ u ∈ ks, IsT wr.heap.size (set4 (wr.setCell ⟨W.heap.size, 3, none⟩ v) (W.heap.size + 2) 0 x) u := fun u hu =>
    (k2 u hu).1.fromS (fun b hb => hother b (by have := hb.2; unfold Mix at this; omega) (by have := hb.2; unfold Mix at this; omega)) (k2 u hu).2
  have hS : ∀ u ∈ ks, BlkT (Mix ns W.heap.size) u := fun u hu => (k2 u hu).2.mono fun b hb => by have := hb.2; unfold Mix at this ⊢; omega
  refine ⟨((x, ks) : TV × List (Tm M)), rfl, ?_, ?_, ?_⟩
  · rw [hsz']
    refine ⟨hkl.symm, ⟨?_, hcl, hlim⟩, hs, ?_⟩
    · show len ≤ _
      omega
    · rcases hoc with ⟨_, hn⟩ | ⟨g, cp, hv2, hg1, hg2, hcells⟩
      · left
        show ks = []
        apply List.length_eq_zero_iff.1
        rw [hkl, ← hl, hn]; rfl
      · right
        rw [hv] at hv2
        simp at hv2
        obtain ⟨e1, _, _⟩ := hv2
        refine ⟨g, 0, e1, hg2, fun j u hu => ⟨?_, hT u (List.mem_of_getElem? hu)⟩⟩
        rw [Nat.zero_add]
        have hu' : ks[j]? = some u := hu
        have : l[j]? = some u.tv := by rw [← k1, List.getElem?_map, hu']; rfl
        exact (hcells j u.tv this).kept (hother g (by omega) (by omega))
  · refine ⟨?_, hS⟩
    rcases hoc with ⟨_, hn⟩ | ⟨g, cp, hv2, hg1, hg2, hcells⟩
    · left
      show ks = []
      apply List.length_eq_zero_iff.1
      rw [hkl, ← hl, hn]; rfl
    · right
      rw [hv] at hv2
      simp at hv2
      obtain ⟨e1, _, _⟩ := hv2
      exact ⟨g, 0, e1, by unfold Mix; omega⟩
  · rw [code_succ, k3]; rfl


theorem row_slice {W : World} {base : Nat} {e : TypeId} {sz : Nat} {v : Value} {n : Nat} {xs : List Value} (h : W.ownsRow base e sz v n xs) : ∃ a cap, v = .slice a n cap := by
  obtain ⟨_, h2⟩ := h
  rcases h2 with ⟨hv, hn⟩ | ⟨g, cap, cur, hv, _⟩
  · exact ⟨none, 0, by rw [hv, hn]⟩
  · exact ⟨_, cap, hv⟩
theorem three_z (w : World) (x y : TV) : ∃ W3, ((w.alloc (.cells #[.int .i64 x.k, .int .i64 x.N, .string x.s, .slice x.a x.len x.cap] 24)).alloc (.cells #[.int .i64 y.k, .int .i64 y.N, .string y.s, .slice y.a y.len y.cap] 24)).alloc (.cells #[.int .i64 0, .int .i64 0, .string ⟨#[]⟩, .slice none 0 0] 24) = W3 ∧ Below w.heap.size w W3 ∧ BoxT W3 w.heap.size x ∧ BoxT W3 (w.heap.size + 1) y ∧ W3.heap[w.heap.size + 2]? = some (.cells #[.int .i64 0, .int .i64 0, .string ⟨#[]⟩, .slice none 0 0] 24 (0, 0)) ∧ W3.heap.size = w.heap.size + 3 := by
  obtain ⟨W2, h1, h2, h3, h4, h5⟩ := two_new w x y
  rw [h1]
  refine ⟨_, rfl, h2.alloc (by omega) _, h3.alloc _, h4.alloc _, ?_, by simp [h5]⟩
  have := World.alloc_heap_new W2 (.cells #[.int .i64 0, .int .i64 0, .string ⟨#[]⟩, .slice none 0 0] 24)
  rw [h5] at this
  exact this

/-- What laid answers. -/
def LaidSays (D : Nat) (W : World) (c : List Nd) (e : Ending) (W' : World) : Prop := ∃ x : TV, e = .returned x.val ∧ Below W.heap.size W W' ∧ HoldsS D (Mix 0 W.heap.size) W' x.val c

set_option maxRecDepth 100000 in
set_option maxHeartbeats 2000000 in
theorem laid_comp {m n D : Nat} (ps : List (Tm m × Tm m)) (la : Option Addr) (ll lc : Nat)
    (ih : ∀ (x y : Tm n) (W : World), IsP W.heap.size W la ll ps → IsT W.heap.size W x → IsT W.heap.size W y → okT x = true → okT y = true → (∀ q ∈ prs x y, q ∈ cpP ps) → Calls Tryz.prog 82 #[x.tv.val, y.tv.val, .slice la ll lc] W (LaidSays D W (Gc (ιP (cpP ps)) x y)))
    (k N : Int) (s s' : ByteArray) (k' N' : Int) (a a' : Option Addr) (len cap len' cap' : Nat) (kids kids' : List (Tm n)) (W : World) (hP : IsP W.heap.size W la ll ps)
    (hnt : ∀ W2, Below W.heap.size W W2 → Calls Tryz.prog 81 #[.slice la ll lc, .agg #[.int .i64 k, .int .i64 N, .string s, .slice a len cap], .agg #[.int .i64 k', .int .i64 N', .string s', .slice a' len' cap']] W2 fun e W3 => e = .returned (.int .i64 (-1)) ∧ Below W2.heap.size W2 W3)
    (hlq : len = len') (hlen : len = kids.length) (hlen' : len' = kids'.length) (hl50 : len ≤ 50) (hs : s.size ≤ 9223372036854775807)
    (hkids : kids = [] ∨ ∃ b off, a = some ⟨b, off, none⟩ ∧ b < W.heap.size ∧ ∀ j u, kids[j]? = some u → cellsAt W b (off + j * 4) u.tv ∧ IsT W.heap.size W u)
    (hkids' : kids' = [] ∨ ∃ b off, a' = some ⟨b, off, none⟩ ∧ b < W.heap.size ∧ ∀ j u, kids'[j]? = some u → cellsAt W b (off + j * 4) u.tv ∧ IsT W.heap.size W u)
    (ok : ∀ u ∈ kids, okT u = true) (ok' : ∀ u ∈ kids', okT u = true) (hsub : ∀ (j : Nat) u v, kids[j]? = some u → kids'[j]? = some v → ∀ q ∈ prs u v, q ∈ cpP ps) :
    Calls Tryz.prog 82 #[.agg #[.int .i64 k, .int .i64 N, .string s, .slice a len cap], .agg #[.int .i64 k', .int .i64 N', .string s', .slice a' len' cap'], .slice la ll lc] W (LaidSays (D + 1) W ((k, N, s.toList, len) :: zf (Gc (ιP (cpP ps))) kids kids')) := by
  have hl1 : len ≤ kids.length := by omega
  have hl2 : kids.length ≤ len := by omega
  have hl3 : len ≤ kids'.length := by omega
  have hl4 : kids'.length ≤ len := by omega
  have hl5 : (len : Int) ≤ len' := by omega
  obtain ⟨W3, hW3, hB3, hba, hbb, hbz, hsz⟩ := three_z W ⟨k, N, s, a, len, cap⟩ ⟨k', N', s', a', len', cap'⟩
  simp only at hW3
  have hn3 := hnt W3 hB3
  have b0 := hba.c0
  have b1 := hba.c1
  have b2 := hba.c2
  have b3 := hba.c3
  have d0 := hbb.c0
  have d1 := hbb.c1
  have d2 := hbb.c2
  have d3 := hbb.c3
  simp only at b0 b1 b2 b3 d0 d1 d2 d3
  obtain ⟨i0, hi, hz0, hz1, hz2⟩ := info_parts Tryz.info28
  have HI := hide ih
  have HP := hide hP
  have HO := hide ok
  have HO' := hide ok'
  have HSUB := hide hsub
  have HB3 := hide hB3
  have HBA := hide hba
  have HBB := hide hbb
  have HBZ := hide hbz
  have HSZ := hide hsz
  clear ih hP ok ok' hsub hB3 hba hbb hbz hsz hnt hlq hlen hlen'
  go_enter Tryz.func82, Tryz.ntmps82
  go_wp2_with fail
  refine hn3.mono ?_
  clear hn3 b0 b1 b2 b3 d0 d1 d2 d3 hW3
  rintro e W4 ⟨rfl, hb4⟩
  have hB4 : Below W.heap.size W W4 := (unhide HB3).trans (hb4.mono (unhide HB3).size)
  have hs4 : W.heap.size + 3 ≤ W4.heap.size := by have := hb4.size; have := unhide HSZ; omega
  have hba4 : BoxT W4 W.heap.size ⟨k, N, s, a, len, cap⟩ := boxT_on (unhide HBA) hb4
  have hbb4 : BoxT W4 (W.heap.size + 1) ⟨k', N', s', a', len', cap'⟩ := boxT_on (unhide HBB) hb4
  have hbz4 := (hb4.block (W.heap.size + 2) (by have := unhide HSZ; omega)).trans (unhide HBZ)
  have HB4 := hide hB4
  have HBA4 := hide hba4
  have HBB4 := hide hbb4
  have HBZ4 := hide hbz4
  clear hb4 hB4 hba4 hbb4 hbz4 HB3 HBA HBB HBZ HSZ
  go_wp2_with fail
  go_loopw [8, 9] (fun av i wr => ∃ (j : Nat) (l : List TV), j ≤ len ∧ i = .int .i64 j ∧ l.length = j ∧ Below (W.heap.size + 3) W4 wr ∧ Made D (Mix 0 (W.heap.size + 3)) (W.heap.size + 3) wr av l (zf (Gc (ιP (cpP ps))) (kids.take j) (kids'.take j))) (fun _ i _ => len - (intOf i).toNat)
  case atStart => exact ⟨0, [], Nat.zero_le _, rfl, rfl, Below.refl _ _, by simpa [zf] using Made.zero _ _ _ _⟩
  case round =>
    obtain ⟨j, l, hj, rfl, hll, hb, hm⟩ := hrel
    have hbs := hb.size
    have hbw : Below W.heap.size W wr := (unhide HB4).trans (hb.mono (by omega))
    have hbar : BoxT wr W.heap.size ⟨k, N, s, a, len, cap⟩ := (hb.block _ (by omega)).trans (unhide HBA4)
    have hbbr : BoxT wr (W.heap.size + 1) ⟨k', N', s', a', len', cap'⟩ := (hb.block _ (by omega)).trans (unhide HBB4)
    have hbzr := (hb.block (W.heap.size + 2) (by omega)).trans (unhide HBZ4)
    have b3 := hbar.c3
    have d3 := hbbr.c3
    simp only at b3 d3
    have HM := hide hm
    have HLL := hide hll
    clear hll
    obtain ⟨va, vc, rfl⟩ := row_slice hm.owns
    by_cases hlt : j < len
    · obtain ⟨u, bk, off, hu, rfl, ⟨c0, c1, c2, c3⟩, hT, hbk2⟩ := kid_at hkids hbw hlt hl1
      obtain ⟨v, bk', off', hv, rfl, ⟨e0, e1, e2, e3⟩, hT', hbk2'⟩ := kid_at hkids' hbw hlt hl3
      have hj1 : (j : Int) < len := by omega
      have hj2 : (j : Int) < len' := by omega
      have hdr : Below wr.heap.size wr wr.drew := (Below.refl _ wr).drew
      have hPw : IsP wr.drew.heap.size wr.drew la ll ps := ((unhide HP).below hbw.drew).mono hbw.drew.size
      have hzf := zfU_take (f := Gc (ιP (cpP ps))) kids kids' j u v hu hv
      have ihu := ((unhide HI) u v wr.drew hPw (hT.below hdr) (hT'.below hdr) ((unhide HO) u (List.mem_of_getElem? hu)) ((unhide HO') v (List.mem_of_getElem? hv)) ((unhide HSUB) j u v hu hv)).mono
        (R' := fun e W5 => ∃ x : TV, e = .returned x.val ∧ Below wr.heap.size wr W5 ∧ HoldsS D (Mix 0 wr.heap.size) W5 x.val (Gc (ιP (cpP ps)) u v)) (fun e W5 h => by
          obtain ⟨x, g1, g2, g3⟩ := h
          exact ⟨x, g1, hdr.trans g2, g3⟩)
      have hy0 : W.heap.size < wr.heap.size := by omega
      have hy1 : W.heap.size + 1 < wr.heap.size := by omega
      have hy2 : bk < wr.heap.size := by omega
      have hy3 : bk' < wr.heap.size := by omega
      have hx0 : W.heap.size < W.heap.size + 3 := by omega
      have hx1 : W.heap.size + 1 < W.heap.size + 3 := by omega
      have hx2 : bk < W.heap.size + 3 := by omega
      have hx3 : bk' < W.heap.size + 3 := by omega
      have HZF := hide hzf
      clear hkids hkids' hT hT' hu hv hzf hdr hPw hm hbar hbbr hbzr
      simp only [TV.val] at ihu
      go_wp2_with fail
      refine wp_region_noPanic ?_
      refine wp_region_held_drew (S := (fun w' => w'.cell? ⟨W.heap.size, 3, none⟩ = some (.slice (some ⟨bk, off, none⟩) len cap) ∧ w'.cell? ⟨W.heap.size + 1, 3, none⟩ = some (.slice (some ⟨bk', off', none⟩) len' cap') ∧ w'.cell? ⟨bk, off + j * 4, none⟩ = some (.int .i64 u.tv.k) ∧ w'.cell? ⟨bk, off + j * 4 + 1, none⟩ = some (.int .i64 u.tv.N) ∧ w'.cell? ⟨bk, off + j * 4 + 2, none⟩ = some (.string u.tv.s) ∧ w'.cell? ⟨bk, off + j * 4 + 3, none⟩ = some (.slice u.tv.a u.tv.len u.tv.cap) ∧ w'.cell? ⟨bk', off' + j * 4, none⟩ = some (.int .i64 v.tv.k) ∧ w'.cell? ⟨bk', off' + j * 4 + 1, none⟩ = some (.int .i64 v.tv.N) ∧ w'.cell? ⟨bk', off' + j * 4 + 2, none⟩ = some (.string v.tv.s) ∧ w'.cell? ⟨bk', off' + j * 4 + 3, none⟩ = some (.slice v.tv.a v.tv.len v.tv.cap))) (by kernel_rfl) ?_ (fun hHeld => ?_)
      · go_keep
      refine wpAnyH_take (i := 0) (oi := { dst := some 25, op := Op.move (Operand.tmp 8), type := 22, pos := "term.go:293", after := #[], guard := none }) (v := ?_) rfl (by kernel_rfl) (by kernel_rfl) (by kernel_rfl) (fun _ _ _ h => h) (Or.inl ⟨by rfl, ?_⟩) hHeld ?_
      rotate_left
      · (intro w' hSw; (try dsimp only at hSw); go_simp; try with_reducible rfl)
      try simp only [Act.put, List.setIfInBounds_toArray, List.set_cons_zero, List.set_cons_succ]
      refine wpAnyH_take (i := 1) (oi := { dst := some 26, op := Op.fieldAddr 24 (Operand.tmp 3) 3, type := 0, pos := "term.go:293", after := #[], guard := none }) (v := ?_) rfl (by kernel_rfl) (by kernel_rfl) (by kernel_rfl) (fun _ _ _ h => h) (Or.inl ⟨by rfl, ?_⟩) hHeld ?_
      rotate_left
      · (intro w' hSw; (try dsimp only at hSw); go_simp; try with_reducible rfl)
      try simp only [Act.put, List.setIfInBounds_toArray, List.set_cons_zero, List.set_cons_succ]
      refine wpAnyH_take (i := 2) (oi := { dst := some 27, op := Op.load 22 (Operand.tmp 26), type := 22, pos := "term.go:293", after := #[{ on := 1, ground := Ground.data }], guard := none }) (v := ?_) rfl (by kernel_rfl) (by kernel_rfl) (by kernel_rfl) (fun _ _ _ h => h) (Or.inl ⟨by rfl, ?_⟩) hHeld ?_
      rotate_left
      · (intro w' hSw; (try dsimp only at hSw); go_simp; try with_reducible rfl)
      try simp only [Act.put, List.setIfInBounds_toArray, List.set_cons_zero, List.set_cons_succ]
      refine wpAnyH_take (i := 3) (oi := { dst := some 28, op := Op.move (Operand.tmp 9), type := 3, pos := "term.go:293", after := #[], guard := none }) (v := ?_) rfl (by kernel_rfl) (by kernel_rfl) (by kernel_rfl) (fun _ _ _ h => h) (Or.inl ⟨by rfl, ?_⟩) hHeld ?_
      rotate_left
      · (intro w' hSw; (try dsimp only at hSw); go_simp; try with_reducible rfl)
      try simp only [Act.put, List.setIfInBounds_toArray, List.set_cons_zero, List.set_cons_succ]
      refine wpAnyH_take (i := 4) (oi := { dst := some 29, op := Op.indexAddr 22 (Operand.tmp 27) (Operand.tmp 28), type := 0, pos := "term.go:293", after := #[{ on := 2, ground := Ground.data }, { on := 3, ground := Ground.data }], guard := none }) (v := ?_) rfl (by kernel_rfl) (by kernel_rfl) (by kernel_rfl) (fun _ _ _ h => h) (Or.inl ⟨by rfl, ?_⟩) hHeld ?_
      rotate_left
      · (intro w' hSw; (try dsimp only at hSw); go_simp; try with_reducible rfl)
      try simp only [Act.put, List.setIfInBounds_toArray, List.set_cons_zero, List.set_cons_succ]
      refine wpAnyH_take (i := 5) (oi := { dst := some 30, op := Op.load 24 (Operand.tmp 29), type := 24, pos := "term.go:293", after := #[{ on := 4, ground := Ground.data }], guard := none }) (v := ?_) rfl (by kernel_rfl) (by kernel_rfl) (by kernel_rfl) (fun _ _ _ h => h) (Or.inl ⟨by rfl, ?_⟩) hHeld ?_
      rotate_left
      · (intro w' hSw; (try dsimp only at hSw); go_simp; try with_reducible rfl)
      try simp only [Act.put, List.setIfInBounds_toArray, List.set_cons_zero, List.set_cons_succ]
      refine wpAnyH_take (i := 6) (oi := { dst := some 31, op := Op.fieldAddr 24 (Operand.tmp 4) 3, type := 0, pos := "term.go:293", after := #[], guard := none }) (v := ?_) rfl (by kernel_rfl) (by kernel_rfl) (by kernel_rfl) (fun _ _ _ h => h) (Or.inl ⟨by rfl, ?_⟩) hHeld ?_
      rotate_left
      · (intro w' hSw; (try dsimp only at hSw); go_simp; try with_reducible rfl)
      try simp only [Act.put, List.setIfInBounds_toArray, List.set_cons_zero, List.set_cons_succ]
      refine wpAnyH_take (i := 7) (oi := { dst := some 32, op := Op.load 22 (Operand.tmp 31), type := 22, pos := "term.go:293", after := #[{ on := 6, ground := Ground.data }], guard := none }) (v := ?_) rfl (by kernel_rfl) (by kernel_rfl) (by kernel_rfl) (fun _ _ _ h => h) (Or.inl ⟨by rfl, ?_⟩) hHeld ?_
      rotate_left
      · (intro w' hSw; (try dsimp only at hSw); go_simp; try with_reducible rfl)
      try simp only [Act.put, List.setIfInBounds_toArray, List.set_cons_zero, List.set_cons_succ]
      refine wpAnyH_take (i := 8) (oi := { dst := some 33, op := Op.move (Operand.tmp 9), type := 3, pos := "term.go:293", after := #[], guard := none }) (v := ?_) rfl (by kernel_rfl) (by kernel_rfl) (by kernel_rfl) (fun _ _ _ h => h) (Or.inl ⟨by rfl, ?_⟩) hHeld ?_
      rotate_left
      · (intro w' hSw; (try dsimp only at hSw); go_simp; try with_reducible rfl)
      try simp only [Act.put, List.setIfInBounds_toArray, List.set_cons_zero, List.set_cons_succ]
      refine wpAnyH_take (i := 9) (oi := { dst := some 34, op := Op.indexAddr 22 (Operand.tmp 32) (Operand.tmp 33), type := 0, pos := "term.go:293", after := #[{ on := 7, ground := Ground.data }, { on := 8, ground := Ground.data }], guard := none }) (v := ?_) rfl (by kernel_rfl) (by kernel_rfl) (by kernel_rfl) (fun _ _ _ h => h) (Or.inl ⟨by rfl, ?_⟩) hHeld ?_
      rotate_left
      · (intro w' hSw; (try dsimp only at hSw); go_simp; try with_reducible rfl)
      try simp only [Act.put, List.setIfInBounds_toArray, List.set_cons_zero, List.set_cons_succ]
      refine wpAnyH_take (i := 10) (oi := { dst := some 35, op := Op.load 24 (Operand.tmp 34), type := 24, pos := "term.go:293", after := #[{ on := 9, ground := Ground.data }], guard := none }) (v := ?_) rfl (by kernel_rfl) (by kernel_rfl) (by kernel_rfl) (fun _ _ _ h => h) (Or.inl ⟨by rfl, ?_⟩) hHeld ?_
      rotate_left
      · (intro w' hSw; (try dsimp only at hSw); go_simp; try with_reducible rfl)
      try simp only [Act.put, List.setIfInBounds_toArray, List.set_cons_zero, List.set_cons_succ]
      refine wpAnyH_take (i := 11) (oi := { dst := some 36, op := Op.move (Operand.tmp 2), type := 110, pos := "term.go:293", after := #[], guard := none }) (v := ?_) rfl (by kernel_rfl) (by kernel_rfl) (by kernel_rfl) (fun _ _ _ h => h) (Or.inl ⟨by rfl, ?_⟩) hHeld ?_
      rotate_left
      · (intro w' hSw; (try dsimp only at hSw); go_simp; try with_reducible rfl)
      try simp only [Act.put, List.setIfInBounds_toArray, List.set_cons_zero, List.set_cons_succ]
      refine wpAnyH_ready (rs := [12]) (by kernel_rfl) (by simp) ?_
      refine AllReadyH.cons (o := { dst := some 37, op := Op.call { callee := Callee.value (Operand.func 82), args := #[Operand.tmp 30, Operand.tmp 35, Operand.tmp 36], argTypes := #[24, 24, 110] }, type := 24, pos := "term.go:293", after := #[{ on := 5, ground := Ground.data }, { on := 10, ground := Ground.data }, { on := 11, ground := Ground.data }], guard := none }) rfl (fun K hK => ?_) AllReadyH.nil
      have hHold := hHeld
      clear hHeld
      go_simp
      refine ihu.mono ?_
      clear ihu
      rintro e W5 ⟨x, rfl, hb5, hx⟩
      have hbc := bcell hb5
      dsimp only [TV.val]
      go_wp2_with fail
      refine hK.out _ _ ?_ (fun hHeld => ?_)
      · ((try dsimp only); go_keep)
      clear hK K hHold
      try simp only [Act.put, List.setIfInBounds_toArray, List.set_cons_zero, List.set_cons_succ]
      refine wpAnyH_ready (rs := [13]) (by kernel_rfl) (by simp) ?_
      refine AllReadyH.cons (o := { dst := some 38, op := Op.buildSlice 22 1 #[(0, Operand.tmp 37)], type := 22, pos := "term.go:293", after := #[{ on := 12, ground := Ground.data }], guard := none }) rfl (fun K hK => ?_) AllReadyH.nil
      have hHold := hHeld
      clear hHeld
      go_simp
      refine hK.out _ _ ?_ (fun hHeld => ?_)
      · ((try dsimp only); go_keep)
      clear hK K hHold
      try simp only [Act.put, List.setIfInBounds_toArray, List.set_cons_zero, List.set_cons_succ]
      refine wpAnyH_ready (rs := [14]) (by kernel_rfl) (by simp) ?_
      refine AllReadyH.cons (o := { dst := some 39, op := Op.call { callee := Callee.builtin Builtin.append, args := #[Operand.tmp 25, Operand.tmp 38], argTypes := #[22, 22] }, type := 22, pos := "term.go:293", after := #[{ on := 0, ground := Ground.data }, { on := 13, ground := Ground.data }, { on := 12, ground := Ground.chain }], guard := none }) rfl (fun K hK => ?_) AllReadyH.nil
      have hHold := hHeld
      clear hHeld
      have hs5 := hb5.size
      have hown5 : (W5.alloc (.cells #[.int .i64 x.k, .int .i64 x.N, .string x.s, .slice x.a x.len x.cap] 24)).ownsRow (W.heap.size + 3) 24 4 (.slice va l.length vc) l.length (l.flatMap TV.row) :=
        owns_below (unhide HM).owns (fun g hg => by
          have hlt := (owns_lt (unhide HM).owns hg).2
          exact (Below.heap_alloc _ _ _ (Nat.lt_of_lt_of_le hlt hb5.size)).trans (hb5.block g hlt))
      obtain ⟨u6, w6, hr6, hown6, hg6, _, hbk6⟩ := run_append_own_at (P := Tryz.prog) _ (W.heap.size + 3) 22 22 24 i0 _ 4 56 Tryz.underlying22 hi hz0 hz1 hz2 rfl (by decide) (.slice va l.length vc) l.length (l.flatMap TV.row) hown5 ⟨W5.heap.size, 0, none⟩ 1 1 x.row rfl new_cells row_one (by have := unhide HLL; unfold maxLen; omega) (by have := unhide HLL; omega) (by simp; omega)
      have hgl : ∀ g, (Value.slice va l.length vc).ownBlock = some g → W.heap.size + 3 ≤ g ∧ g < wr.heap.size := fun g hg => owns_lt (unhide HM).owns hg
      have hb6 : Below (W.heap.size + 3) W5 w6 := ((Below.refl _ W5).alloc (by omega) _).grown hg6 (by simp; omega) (fun g hg => (hgl g hg).1)
      have hbd : ∀ b o, b < W.heap.size + 3 → w6.cell? ⟨b, o, none⟩ = W5.cell? ⟨b, o, none⟩ := fun b o h => hb6.cell (p := ⟨b, o, none⟩) h
      obtain ⟨va6, vc6, rfl⟩ := row_slice hown6
      rw [if_pos (by rfl)]
      refine wp_append_row _ _ _ rfl rfl rfl hr6 ?_
      refine hK.out _ _ ?_ (fun hHeld => ?_)
      · ((try dsimp only); go_keep)
      clear hK K hHold
      try simp only [Act.put, List.setIfInBounds_toArray, List.set_cons_zero, List.set_cons_succ]
      refine wpAnyH_take (i := 15) (oi := { dst := some 8, op := Op.assign (Operand.tmp 39), type := 22, pos := "term.go:293", after := #[{ on := 14, ground := Ground.data }, { on := 14, ground := Ground.chain }, { on := 0, ground := Ground.phase }, { on := 1, ground := Ground.phase }, { on := 2, ground := Ground.phase }, { on := 3, ground := Ground.phase }, { on := 4, ground := Ground.phase }, { on := 5, ground := Ground.phase }, { on := 6, ground := Ground.phase }, { on := 7, ground := Ground.phase }, { on := 8, ground := Ground.phase }, { on := 9, ground := Ground.phase }, { on := 10, ground := Ground.phase }, { on := 11, ground := Ground.phase }, { on := 12, ground := Ground.phase }, { on := 13, ground := Ground.phase }, { on := 14, ground := Ground.phase }], guard := none }) (v := ?_) rfl (by kernel_rfl) (by kernel_rfl) (by kernel_rfl) (fun _ _ _ h => h) (Or.inl ⟨by rfl, ?_⟩) hHeld ?_
      rotate_left
      · (intro w' hSw; (try dsimp only at hSw); go_simp; try with_reducible rfl)
      try simp only [Act.put, List.setIfInBounds_toArray, List.set_cons_zero, List.set_cons_succ]
      refine wpAnyH_done (by kernel_rfl) ?_ _
      refine NoPanic.normal ?_
      clear hbc hbd
      have hmade := (unhide HM).next hb5 (hx.mono (Nat.le_refl _) (fun b hb => ⟨by unfold Mix at hb ⊢; omega, fun e => by have := hgl b e; unfold Mix at hb; omega⟩)) hown6 hg6 (by simpa using hbk6)
      rw [← unhide HZF] at hmade
      have hbel : Below (W.heap.size + 3) W4 w6 := (hb.trans (hb5.mono (by omega))).trans hb6
      have HMF := hide hmade
      clear hmade hown6 hown5 hg6 hr6 hb6 hx hbk6 hgl
      go_wp2_with fail
      exact ⟨⟨j + 1, l ++ [x], by omega, by go_num, by simp [unhide HLL], hbel, unhide HMF⟩, by simp [intOf]; omega⟩
    · have hjl : j = len := by omega
      have ht : kids.take j = kids := List.take_of_length_le (by omega)
      have ht' : kids'.take j = kids' := List.take_of_length_le (by omega)
      rw [ht, ht'] at hm
      obtain ⟨aa, cc, hv', hfin⟩ := args_end3 (k := k) (N := N) (s := s) (len := len) (by rw [unhide HLL, hjl]) hl50 hs hbw (Nat.zero_le _) hm
      obtain ⟨⟨z0, z1, z2, z3⟩, y0, y1, y2, y3⟩ := zbox_kept hbzr
      have x0 := hbar.c0
      have x1 := hbar.c1
      have x2 := hbar.c2
      have x3 := hbar.c3
      simp only at x0 x1 x2 x3
      have f3 : wr.frozen? ⟨W.heap.size, 3, none⟩ = false := by simp [World.frozen?, show wr.heap[W.heap.size]? = _ from hbar]
      simp only [Value.slice.injEq] at hv'
      obtain ⟨rfl, hle, rfl⟩ := hv'
      rw [hle] at hfin ⊢
      clear hle
      obtain ⟨f1, f2⟩ := hfin
      have F1 := hide f1
      have F2 := hide f2
      have hlt' : ¬ (j : Int) < (len : Int) := by omega
      clear f1 f2 hm ht ht' hkids hkids' hjl hbar hbbr hbzr
      go_wp2_with fail
      refine bodyPost_ret (v := (⟨k, N, s, va, len, vc⟩ : TV).val) ?_ rfl ⟨_, rfl, unhide F1, unhide F2⟩
      simp [results, Tryz.results82, go_sem, TV.val, z0, z1, z2, z3]
end Go.Proofs.YtojefplapklbmaaGreatDoor

