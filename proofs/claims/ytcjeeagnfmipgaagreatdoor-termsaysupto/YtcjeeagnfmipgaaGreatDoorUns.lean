import Derived.Test.YtcjeeagnfmipgaaGreatDoorPts
import Derived.Test.YtcjeeagnfmipgaaGreatDoorMps
import Derived.Test.YtcjeeagnfmipgaaGreatDoorLms
import Derived.Test.YtcjeeagnfmipgaaGreatDoorSws
/- The contract of hornref.unlike: the pairs of parts that have nothing in common (prs). -/
namespace Go.Proofs.YtcjeeagnfmipgaaGreatDoor
open Go.RowKit Go.Shelf Go.Maps

theorem boxT_on {W W' : World} {b : Nat} {x : TV} (h : BoxT W b x) (hb : Below W.heap.size W W') : BoxT W' b x := (hb.block _ h.lt).trans h
theorem zfU_take {α β : Type} {f : α → α → List β} : ∀ (a b : List α) (j : Nat) (u v : α), a[j]? = some u → b[j]? = some v → zf f (a.take (j + 1)) (b.take (j + 1)) = zf f (a.take j) (b.take j) ++ f u v
  | [], _, _, _, _, h, _ => by simp at h
  | _ :: _, [], _, _, _, _, h => by simp at h
  | x :: a, y :: b, 0, u, v, h, h' => by
    simp at h h'; subst h; subst h'
    simp [zf]
  | x :: a, y :: b, j + 1, u, v, h, h' => by
    simp only [List.take_succ_cons, zf]
    rw [zfU_take a b j u v (by simpa using h) (by simpa using h'), List.append_assoc]
theorem zfU_len {n : Nat} (hf : ∀ a b : Tm n, (prs a b).length ≤ (code a).length) : ∀ (a b : List (Tm n)), (zf prs a b).length ≤ (a.flatMap code).length
  | [], _ => by simp [zf]
  | _ :: _, [] => by simp [zf]
  | x :: a, y :: b => by
    simp only [zf, List.length_append, List.flatMap_cons]
    have := hf x y
    have := zfU_len hf a b
    omega
theorem prsU_len : ∀ {n : Nat} (a b : Tm n), (prs a b).length ≤ (code a).length := by
  intro n
  induction n with
  | zero => intro a; exact Empty.elim a
  | succ n ih =>
    intro a b
    have hc := code_kids a
    cases h : apart a.tv b.tv with
    | true => rw [prs_apart h, hc]; simp
    | false =>
      rw [prs_like h, hc]
      have := zfU_len ih a.kids b.kids
      simp only [List.length_cons]
      omega

/-- What unlike answers. -/
def UnSays (D n₀ : Nat) (w : World) (c : List Pr) (e : Ending) (W' : World) : Prop :=
  ∃ a len cap l, e = .returned (.slice a len cap) ∧ Below w.heap.size w W' ∧ MadeP D n₀ w.heap.size W' (.slice a len cap) l c

set_option maxRecDepth 100000 in
set_option maxHeartbeats 2000000 in
theorem unlike_comp {n₀ n : Nat} (ih : ∀ (x y : Tm n) (w : World), IsT n₀ w x → IsT n₀ w y → n₀ ≤ w.heap.size → okT x = true → okT y = true → (code x).length ≤ 4194304 → Calls Tryz.prog 80 #[x.tv.val, y.tv.val] w (UnSays n n₀ w (prs x y)))
    (s s' : ByteArray) (a a' : Option Addr) (len cap len' cap' : Nat) (N N' : Int) (kids kids' : List (Tm n)) (w : World) (hn : n₀ ≤ w.heap.size) (hs : s.toList = s'.toList) (hlq : len = len') (hlen : len = kids.length) (hlen' : len' = kids'.length) (hmax : len ≤ 50) (hDl : n ≤ 2199023255552)
    (hkids : kids = [] ∨ ∃ b off, a = some ⟨b, off, none⟩ ∧ b < n₀ ∧ ∀ j u, kids[j]? = some u → cellsAt w b (off + j * 4) u.tv ∧ IsT n₀ w u)
    (hkids' : kids' = [] ∨ ∃ b off, a' = some ⟨b, off, none⟩ ∧ b < n₀ ∧ ∀ j u, kids'[j]? = some u → cellsAt w b (off + j * 4) u.tv ∧ IsT n₀ w u)
    (ok : ∀ u ∈ kids, okT u = true) (ok' : ∀ u ∈ kids', okT u = true) (hbig : (kids.flatMap code).length ≤ 4194304) :
    Calls Tryz.prog 80 #[.agg #[.int .i64 4, .int .i64 N, .string s, .slice a len cap], .agg #[.int .i64 4, .int .i64 N', .string s', .slice a' len' cap']] w (UnSays n n₀ w (zf prs kids kids')) := by
  have hs' : (s.toList == s'.toList) = true := by simp [hs]
  have hl' : ((len : Int) == (len' : Int)) = true := by simp; omega
  have hl1 : len ≤ kids.length := by omega
  have hl2 : kids.length ≤ len := by omega
  have hl3 : len ≤ kids'.length := by omega
  have hl4 : kids'.length ≤ len := by omega
  have hl5 : (len : Int) ≤ len' := by omega
  obtain ⟨W1, hW1, hB1, hba, hbb, hsz⟩ := two_new w ⟨4, N, s, a, len, cap⟩ ⟨4, N', s', a', len', cap'⟩
  simp only at hW1
  have b0 := hba.c0
  have b2 := hba.c2
  have b3 := hba.c3
  have d0 := hbb.c0
  have d2 := hbb.c2
  have d3 := hbb.c3
  simp only at b0 b2 b3 d0 d2 d3
  obtain ⟨i0, hi, hz0, hz1, hz2⟩ := info_parts Tryz.info_pair
  have HI := hide ih
  have HO := hide ok
  have HO' := hide ok'
  have HB1 := hide hB1
  have HSZ := hide hsz
  clear ih ok ok' hs hlen hlen' hlq hba hbb hB1 hsz
  go_enter Tryz.func80, Tryz.ntmps80
  go_wp2_with fail
  clear hW1 b0 b2 d0 d2
  go_loopw [5, 6] (fun av i wr => ∃ (j : Nat) (l : List (TV × TV)), j ≤ len ∧ i = .int .i64 j ∧ Below (w.heap.size + 2) W1 wr ∧ MadeP n n₀ (w.heap.size + 2) wr av l (zf prs (kids.take j) (kids'.take j))) (fun _ i _ => len - (intOf i).toNat)
  case atStart => exact ⟨0, [], Nat.zero_le _, rfl, Below.refl _ _, by simpa [zf] using MadeP.zero _ _ _ _⟩
  case round =>
    obtain ⟨j, l, hj, rfl, hb, hm⟩ := hrel
    have hsz := unhide HSZ
    have hbs := hb.size
    have hbw : Below w.heap.size w wr := (unhide HB1).trans (hb.mono (by omega))
    replace b3 := (hb.cell (p := ⟨w.heap.size, 3, none⟩) (by simp)).trans b3
    replace d3 := (hb.cell (p := ⟨w.heap.size + 1, 3, none⟩) (by simp)).trans d3
    have hll := hm.len
    have hcl := zfU_len prsU_len (kids.take j) (kids'.take j)
    have HM := hide hm
    obtain ⟨va, vc, rfl⟩ := hm.slice
    clear hm
    by_cases hlt : j < len
    · obtain ⟨u, bk, off, hu, rfl, ⟨c0, c1, c2, c3⟩, hT, hbk2⟩ := kid_below hkids (hbw.mono hn) hlt hl1
      obtain ⟨v, bk', off', hv, rfl, ⟨e0, e1, e2, e3⟩, hT', hbk2'⟩ := kid_below hkids' (hbw.mono hn) hlt hl3
      have hj1 : (j : Int) < len := by omega
      have hj2 : (j : Int) < len' := by omega
      have hdr : Below wr.heap.size wr wr.drew := (Below.refl _ wr).drew
      have hpre : ((kids.take j).flatMap code).length + (code u).length ≤ (kids.flatMap code).length := by
        have h1 : kids.flatMap code = (kids.take (j + 1)).flatMap code ++ (kids.drop (j + 1)).flatMap code := by rw [← List.flatMap_append, List.take_append_drop]
        rw [h1, code_take kids j u hu]
        simp only [List.length_append]
        omega
      have hpl := prsU_len u v
      have hzf := zfU_take (f := prs) kids kids' j u v hu hv
      have ihu := ((unhide HI) u v wr.drew (hT.below (hdr.mono (by omega))) (hT'.below (hdr.mono (by omega))) (show n₀ ≤ wr.heap.size by omega) ((unhide HO) u (List.mem_of_getElem? hu)) ((unhide HO') v (List.mem_of_getElem? hv)) (by omega)).mono
        (R' := fun e W5 => ∃ a5 l5 c5 lp, e = .returned (.slice a5 l5 c5) ∧ Below wr.heap.size wr W5 ∧ MadeP n n₀ wr.heap.size W5 (.slice a5 l5 c5) lp (prs u v)) (fun e W5 h => by
          obtain ⟨a5, l5, c5, lp, g1, g2, g3⟩ := h
          exact ⟨a5, l5, c5, lp, g1, hdr.trans g2, g3⟩)
      have hy0 : w.heap.size < wr.heap.size := by omega
      have hy1 : w.heap.size + 1 < wr.heap.size := by omega
      have hy2 : bk < wr.heap.size := by omega
      have hy3 : bk' < wr.heap.size := by omega
      have hx0 : w.heap.size < w.heap.size + 2 := by omega
      have hx1 : w.heap.size + 1 < w.heap.size + 2 := by omega
      have hx2 : bk < w.heap.size + 2 := by omega
      have hx3 : bk' < w.heap.size + 2 := by omega
      have HZF := hide hzf
      clear hkids hkids' hT hT' hu hv hzf hdr
      simp only [TV.val] at ihu
      go_wp2_with fail
      refine wp_region_noPanic ?_
      refine wp_region_held_drew (S := (fun w' => w'.cell? ⟨w.heap.size, 3, none⟩ = some (.slice (some ⟨bk, off, none⟩) len cap) ∧ w'.cell? ⟨w.heap.size + 1, 3, none⟩ = some (.slice (some ⟨bk', off', none⟩) len' cap') ∧ w'.cell? ⟨bk, off + j * 4, none⟩ = some (.int .i64 u.tv.k) ∧ w'.cell? ⟨bk, off + j * 4 + 1, none⟩ = some (.int .i64 u.tv.N) ∧ w'.cell? ⟨bk, off + j * 4 + 2, none⟩ = some (.string u.tv.s) ∧ w'.cell? ⟨bk, off + j * 4 + 3, none⟩ = some (.slice u.tv.a u.tv.len u.tv.cap) ∧ w'.cell? ⟨bk', off' + j * 4, none⟩ = some (.int .i64 v.tv.k) ∧ w'.cell? ⟨bk', off' + j * 4 + 1, none⟩ = some (.int .i64 v.tv.N) ∧ w'.cell? ⟨bk', off' + j * 4 + 2, none⟩ = some (.string v.tv.s) ∧ w'.cell? ⟨bk', off' + j * 4 + 3, none⟩ = some (.slice v.tv.a v.tv.len v.tv.cap))) (by kernel_rfl) ?_ (fun hHeld => ?_)
      · go_keep
      refine wpAnyH_take (i := 0) (oi := { dst := some 38, op := Op.move (Operand.tmp 5), type := 110, pos := "term.go:256", after := #[], guard := none }) (v := ?_) rfl (by kernel_rfl) (by kernel_rfl) (by kernel_rfl) (fun _ _ _ h => h) (Or.inl ⟨by rfl, ?_⟩) hHeld ?_
      rotate_left
      · (intro w' hSw; (try dsimp only at hSw); go_simp; try with_reducible rfl)
      try simp only [Act.put, List.setIfInBounds_toArray, List.set_cons_zero, List.set_cons_succ]
      refine wpAnyH_take (i := 1) (oi := { dst := some 39, op := Op.fieldAddr 24 (Operand.tmp 2) 3, type := 0, pos := "term.go:256", after := #[], guard := none }) (v := ?_) rfl (by kernel_rfl) (by kernel_rfl) (by kernel_rfl) (fun _ _ _ h => h) (Or.inl ⟨by rfl, ?_⟩) hHeld ?_
      rotate_left
      · (intro w' hSw; (try dsimp only at hSw); go_simp; try with_reducible rfl)
      try simp only [Act.put, List.setIfInBounds_toArray, List.set_cons_zero, List.set_cons_succ]
      refine wpAnyH_take (i := 2) (oi := { dst := some 40, op := Op.load 22 (Operand.tmp 39), type := 22, pos := "term.go:256", after := #[{ on := 1, ground := Ground.data }], guard := none }) (v := ?_) rfl (by kernel_rfl) (by kernel_rfl) (by kernel_rfl) (fun _ _ _ h => h) (Or.inl ⟨by rfl, ?_⟩) hHeld ?_
      rotate_left
      · (intro w' hSw; (try dsimp only at hSw); go_simp; try with_reducible rfl)
      try simp only [Act.put, List.setIfInBounds_toArray, List.set_cons_zero, List.set_cons_succ]
      refine wpAnyH_take (i := 3) (oi := { dst := some 41, op := Op.move (Operand.tmp 6), type := 3, pos := "term.go:256", after := #[], guard := none }) (v := ?_) rfl (by kernel_rfl) (by kernel_rfl) (by kernel_rfl) (fun _ _ _ h => h) (Or.inl ⟨by rfl, ?_⟩) hHeld ?_
      rotate_left
      · (intro w' hSw; (try dsimp only at hSw); go_simp; try with_reducible rfl)
      try simp only [Act.put, List.setIfInBounds_toArray, List.set_cons_zero, List.set_cons_succ]
      refine wpAnyH_take (i := 4) (oi := { dst := some 42, op := Op.indexAddr 22 (Operand.tmp 40) (Operand.tmp 41), type := 0, pos := "term.go:256", after := #[{ on := 2, ground := Ground.data }, { on := 3, ground := Ground.data }], guard := none }) (v := ?_) rfl (by kernel_rfl) (by kernel_rfl) (by kernel_rfl) (fun _ _ _ h => h) (Or.inl ⟨by rfl, ?_⟩) hHeld ?_
      rotate_left
      · (intro w' hSw; (try dsimp only at hSw); go_simp; try with_reducible rfl)
      try simp only [Act.put, List.setIfInBounds_toArray, List.set_cons_zero, List.set_cons_succ]
      refine wpAnyH_take (i := 5) (oi := { dst := some 43, op := Op.load 24 (Operand.tmp 42), type := 24, pos := "term.go:256", after := #[{ on := 4, ground := Ground.data }], guard := none }) (v := ?_) rfl (by kernel_rfl) (by kernel_rfl) (by kernel_rfl) (fun _ _ _ h => h) (Or.inl ⟨by rfl, ?_⟩) hHeld ?_
      rotate_left
      · (intro w' hSw; (try dsimp only at hSw); go_simp; try with_reducible rfl)
      try simp only [Act.put, List.setIfInBounds_toArray, List.set_cons_zero, List.set_cons_succ]
      refine wpAnyH_take (i := 6) (oi := { dst := some 44, op := Op.fieldAddr 24 (Operand.tmp 3) 3, type := 0, pos := "term.go:256", after := #[], guard := none }) (v := ?_) rfl (by kernel_rfl) (by kernel_rfl) (by kernel_rfl) (fun _ _ _ h => h) (Or.inl ⟨by rfl, ?_⟩) hHeld ?_
      rotate_left
      · (intro w' hSw; (try dsimp only at hSw); go_simp; try with_reducible rfl)
      try simp only [Act.put, List.setIfInBounds_toArray, List.set_cons_zero, List.set_cons_succ]
      refine wpAnyH_take (i := 7) (oi := { dst := some 45, op := Op.load 22 (Operand.tmp 44), type := 22, pos := "term.go:256", after := #[{ on := 6, ground := Ground.data }], guard := none }) (v := ?_) rfl (by kernel_rfl) (by kernel_rfl) (by kernel_rfl) (fun _ _ _ h => h) (Or.inl ⟨by rfl, ?_⟩) hHeld ?_
      rotate_left
      · (intro w' hSw; (try dsimp only at hSw); go_simp; try with_reducible rfl)
      try simp only [Act.put, List.setIfInBounds_toArray, List.set_cons_zero, List.set_cons_succ]
      refine wpAnyH_take (i := 8) (oi := { dst := some 46, op := Op.move (Operand.tmp 6), type := 3, pos := "term.go:256", after := #[], guard := none }) (v := ?_) rfl (by kernel_rfl) (by kernel_rfl) (by kernel_rfl) (fun _ _ _ h => h) (Or.inl ⟨by rfl, ?_⟩) hHeld ?_
      rotate_left
      · (intro w' hSw; (try dsimp only at hSw); go_simp; try with_reducible rfl)
      try simp only [Act.put, List.setIfInBounds_toArray, List.set_cons_zero, List.set_cons_succ]
      refine wpAnyH_take (i := 9) (oi := { dst := some 47, op := Op.indexAddr 22 (Operand.tmp 45) (Operand.tmp 46), type := 0, pos := "term.go:256", after := #[{ on := 7, ground := Ground.data }, { on := 8, ground := Ground.data }], guard := none }) (v := ?_) rfl (by kernel_rfl) (by kernel_rfl) (by kernel_rfl) (fun _ _ _ h => h) (Or.inl ⟨by rfl, ?_⟩) hHeld ?_
      rotate_left
      · (intro w' hSw; (try dsimp only at hSw); go_simp; try with_reducible rfl)
      try simp only [Act.put, List.setIfInBounds_toArray, List.set_cons_zero, List.set_cons_succ]
      refine wpAnyH_take (i := 10) (oi := { dst := some 48, op := Op.load 24 (Operand.tmp 47), type := 24, pos := "term.go:256", after := #[{ on := 9, ground := Ground.data }], guard := none }) (v := ?_) rfl (by kernel_rfl) (by kernel_rfl) (by kernel_rfl) (fun _ _ _ h => h) (Or.inl ⟨by rfl, ?_⟩) hHeld ?_
      rotate_left
      · (intro w' hSw; (try dsimp only at hSw); go_simp; try with_reducible rfl)
      try simp only [Act.put, List.setIfInBounds_toArray, List.set_cons_zero, List.set_cons_succ]
      refine wpAnyH_ready (rs := [11]) (by kernel_rfl) (by simp) ?_
      refine AllReadyH.cons (o := { dst := some 49, op := Op.call { callee := Callee.value (Operand.func 80), args := #[Operand.tmp 43, Operand.tmp 48], argTypes := #[24, 24] }, type := 110, pos := "term.go:256", after := #[{ on := 5, ground := Ground.data }, { on := 10, ground := Ground.data }], guard := none }) rfl (fun K hK => ?_) AllReadyH.nil
      have hHold := hHeld
      clear hHeld
      go_simp
      refine ihu.mono ?_
      clear ihu
      rintro e W5 ⟨a5, l5, c5, lp, rfl, hb5, hm5⟩
      have hbc := bcell hb5
      go_wp2_with fail
      refine hK.out _ _ ?_ (fun hHeld => ?_)
      · ((try dsimp only); go_keep)
      clear hK K hHold
      try simp only [Act.put, List.setIfInBounds_toArray, List.set_cons_zero, List.set_cons_succ]
      refine wpAnyH_ready (rs := [12]) (by kernel_rfl) (by simp) ?_
      refine AllReadyH.cons (o := { dst := some 50, op := Op.call { callee := Callee.builtin Builtin.append, args := #[Operand.tmp 38, Operand.tmp 49], argTypes := #[110, 110] }, type := 110, pos := "term.go:256", after := #[{ on := 0, ground := Ground.data }, { on := 11, ground := Ground.data }, { on := 11, ground := Ground.chain }], guard := none }) rfl (fun K hK => ?_) AllReadyH.nil
      have hHold := hHeld
      clear hHeld
      have hs5 := hb5.size
      have hm5l := hm5.len
      obtain ⟨u6, w6, hr6, hm6, hg6⟩ := ((unhide HM).below hb5 (by omega)).append hm5 110 (by omega) (by omega) (by omega)
      have hb6 : Below (w.heap.size + 2) W5 w6 := (Below.refl _ W5).grown hg6 (by omega) (fun g hg => (owns_lt (unhide HM).owns hg).1)
      have hbd : ∀ b o, b < w.heap.size + 2 → w6.cell? ⟨b, o, none⟩ = W5.cell? ⟨b, o, none⟩ := fun b o h => hb6.cell (p := ⟨b, o, none⟩) h
      obtain ⟨va6, vc6, rfl⟩ := hm6.slice
      rw [if_pos (by rfl)]
      refine wp_append_row _ _ _ rfl rfl rfl hr6 ?_
      refine hK.out _ _ ?_ (fun hHeld => ?_)
      · ((try dsimp only); go_keep)
      clear hK K hHold
      try simp only [Act.put, List.setIfInBounds_toArray, List.set_cons_zero, List.set_cons_succ]
      refine wpAnyH_take (i := 13) (oi := { dst := some 5, op := Op.assign (Operand.tmp 50), type := 110, pos := "term.go:256", after := #[{ on := 12, ground := Ground.data }, { on := 12, ground := Ground.chain }, { on := 0, ground := Ground.phase }, { on := 1, ground := Ground.phase }, { on := 2, ground := Ground.phase }, { on := 3, ground := Ground.phase }, { on := 4, ground := Ground.phase }, { on := 5, ground := Ground.phase }, { on := 6, ground := Ground.phase }, { on := 7, ground := Ground.phase }, { on := 8, ground := Ground.phase }, { on := 9, ground := Ground.phase }, { on := 10, ground := Ground.phase }, { on := 11, ground := Ground.phase }, { on := 12, ground := Ground.phase }], guard := none }) (v := ?_) rfl (by kernel_rfl) (by kernel_rfl) (by kernel_rfl) (fun _ _ _ h => h) (Or.inl ⟨by rfl, ?_⟩) hHeld ?_
      rotate_left
      · (intro w' hSw; (try dsimp only at hSw); go_simp; try with_reducible rfl)
      try simp only [Act.put, List.setIfInBounds_toArray, List.set_cons_zero, List.set_cons_succ]
      refine wpAnyH_done (by kernel_rfl) ?_ _
      refine NoPanic.normal ?_
      clear hbc hbd
      have hmf : MadeP n n₀ (w.heap.size + 2) w6 (.slice va6 (l ++ lp).length vc6) (l ++ lp) (zf prs (kids.take (j + 1)) (kids'.take (j + 1))) := by rw [unhide HZF]; exact hm6
      have hbf : Below (w.heap.size + 2) W1 w6 := (hb.trans (hb5.mono (by omega))).trans hb6
      have HMF := hide hmf
      clear hmf hm6 hm5 hg6 hr6 hb6
      go_wp2_with fail
      exact ⟨⟨j + 1, l ++ lp, by omega, by go_num, hbf, by have h := unhide HMF; rw [List.length_append] at h; exact h⟩, by simp [intOf]; omega⟩
    · have ht : kids.take j = kids := List.take_of_length_le (by omega)
      have ht' : kids'.take j = kids' := List.take_of_length_le (by omega)
      have hm := unhide HM
      rw [ht, ht'] at hm
      have hfin : MadeP n n₀ w.heap.size wr (.slice va l.length vc) l (zf prs kids kids') := by
        refine ⟨?_, hm.lim, hm.kids⟩
        obtain ⟨q1, q2⟩ := hm.owns
        refine ⟨q1, ?_⟩
        rcases q2 with q2 | ⟨g, cp, cur, e1, e2, e3⟩
        · exact .inl q2
        · exact .inr ⟨g, cp, cur, e1, by omega, e3⟩
      have HF := hide hfin
      clear ht ht' hm hfin hkids hkids'
      go_wp2_with fail
      exact bodyPost_ret (v := .slice va l.length vc) (by simp [results, Tryz.results80, go_sem]) rfl ⟨va, l.length, vc, l, rfl, hbw, unhide HF⟩

theorem MadeP.more {D D' n₀ base : Nat} {W : World} {v : Value} {l : List (TV × TV)} {c : List Pr} (h : MadeP D n₀ base W v l c) (hD : D ≤ D') (hD' : D' ≤ 2199023255552 := by omega) : MadeP D' n₀ base W v l c := ⟨h.owns, hD', fun M hM hlm => h.kids M (by omega) hlm⟩
theorem lift_to {n₀ : Nat} {W : World} {n : Nat} {t : Tm n} (hT : IsT n₀ W t) : ∀ M, n ≤ M → M ≤ 2199023255552 → ∃ t' : Tm M, t'.tv = t.tv ∧ IsT n₀ W t' ∧ code t' = code t := fun M hM hlm => by
  obtain ⟨k, rfl⟩ : ∃ k, M = n + k := ⟨M - n, by omega⟩
  clear hM
  induction k with
  | zero => exact ⟨t, rfl, hT, rfl⟩
  | succ k ih =>
    obtain ⟨t', h1, h2, h3⟩ := ih (by omega)
    exact ⟨t'.lift, by rw [lift_tv]; exact h1, lift_isT h2 (by omega), by rw [lift_code]; exact h3⟩
/-- One pair, in new memory. -/
theorem one_pair {n₀ n : Nat} {x y : Tm n} {w W : World} (hb : Below w.heap.size w W) (hx : IsT n₀ w x) (hy : IsT n₀ w y) (hn : n₀ ≤ w.heap.size) :
    UnSays n n₀ w [(code x, code y)] (.returned (.slice (some ⟨W.heap.size, 0, none⟩) 1 1)) (W.alloc (.cells #[.int .i64 x.tv.k, .int .i64 x.tv.N, .string x.tv.s, .slice x.tv.a x.tv.len x.tv.cap, .int .i64 y.tv.k, .int .i64 y.tv.N, .string y.tv.s, .slice y.tv.a y.tv.len y.tv.cap] 114)) := by
  have hB := hb.alloc hb.size (.cells #[.int .i64 x.tv.k, .int .i64 x.tv.N, .string x.tv.s, .slice x.tv.a x.tv.len x.tv.cap, .int .i64 y.tv.k, .int .i64 y.tv.N, .string y.tv.s, .slice y.tv.a y.tv.len y.tv.cap] 114)
  refine ⟨_, _, _, [(x.tv, y.tv)], rfl, hB, ⟨⟨by simp [pRow, TV.row], .inr ⟨W.heap.size, 1, _, rfl, hb.size, World.alloc_heap_new W _, by simp, by decide, rfl, by simp [pRow, TV.row]⟩⟩, hx.lim, fun M hM hlm => ?_⟩⟩
  obtain ⟨x', a1, a2, a3⟩ := lift_to hx M hM hlm
  obtain ⟨y', b1, b2, b3⟩ := lift_to hy M hM hlm
  exact ⟨[(x', y')], by simp [a1, b1], fun p hp => by simp at hp; subst hp; exact ⟨a2.below (hB.mono hn), b2.below (hB.mono hn)⟩, by simp [cpP, a3, b3]⟩

set_option maxRecDepth 100000 in
set_option maxHeartbeats 2000000 in
theorem unlike_any {n₀ : Nat} : ∀ (n : Nat) (x y : Tm n) (w : World), IsT n₀ w x → IsT n₀ w y → n₀ ≤ w.heap.size → okT x = true → okT y = true → (code x).length ≤ 4194304 → Calls Tryz.prog 80 #[x.tv.val, y.tv.val] w (UnSays n n₀ w (prs x y)) := by
  intro n
  induction n with
  | zero => intro x; exact Empty.elim x
  | succ n ih =>
    intro x y w hx hy hn ox oy hbig
    have hcx := code_kids x
    have hlx : (x.kids.flatMap code).length ≤ 4194304 := by rw [hcx] at hbig; simp only [List.length_cons] at hbig; omega
    have hpa := @prs_apart n x y
    have hpl := @prs_like n x y
    have hst := sameT_code (hx.wl) (hy.wl)
    obtain ⟨R, hR⟩ : ∃ R, prs x y = R := ⟨_, rfl⟩
    rw [hR] at hpa hpl ⊢
    clear hR hcx hbig
    have hB2 := fun (W : World) (hb : Below w.heap.size w W) => same_any (n + 1) x y W ((hx.mono hn |>.below hb).mono hb.size) ((hy.mono hn |>.below hb).mono hb.size)
    have HX := hide hx
    have HY := hide hy
    obtain ⟨⟨k, N, s, a, len, cap⟩, kids⟩ := x
    obtain ⟨⟨k', N', s', a', len', cap'⟩, kids'⟩ := y
    obtain ⟨hlen, ⟨hmax, _, hlimx⟩, hsm0, hkids⟩ := hx
    obtain ⟨hlen', ⟨hmax', _, _⟩, hsm0', hkids'⟩ := hy
    obtain ⟨wx, okx⟩ := ok_kids ox
    obtain ⟨wy, oky⟩ := ok_kids oy
    simp only [Tm.tv, Tm.kids] at hlen hmax hkids hlen' hmax' hkids' wx wy hpa hpl hlx
    by_cases hall : k = 4 ∧ k' = 4 ∧ s.toList = s'.toList ∧ len = len'
    · obtain ⟨rfl, rfl, hs, hl⟩ := hall
      have hN0 : N = 0 ∧ len ≤ 50 := by simp [wmB] at wx; omega
      have hN0' : N' = 0 := by simp [wmB] at wy; omega
      have hap : apart (⟨4, N, s, a, len, cap⟩ : TV) ⟨4, N', s', a', len', cap'⟩ = false := by simp [apart, stop, hs, hl, hN0.1, hN0']
      rw [hpl hap]
      refine (unlike_comp ih s s' a a' len cap len' cap' N N' kids kids' w hn hs hl hlen hlen' hN0.2 (by omega) hkids hkids' okx oky hlx).mono fun e W' h => ?_
      obtain ⟨a1, l1, c1, lp, g1, g2, g3⟩ := h
      exact ⟨a1, l1, c1, lp, g1, g2, g3.more (by omega)⟩
    · have hsamef : sameT (n := n + 1) ((⟨k, N, s, a, len, cap⟩, kids) : TV × List (Tm n)) ((⟨k', N', s', a', len', cap'⟩, kids') : TV × List (Tm n)) = false → k = k' → s.toList = s'.toList → len = len' → N = N' → k ≠ 4 → False := fun h e1 e2 e3 e4 e5 => by
        have h0 : len = 0 := by
          rcases wm_cases wx with ⟨_, _, _, _, h⟩ | ⟨_, h⟩ | ⟨h, _⟩
          · exact h
          · exact h
          · exact (e5 h).elim
        have k1 : kids = [] := List.length_eq_zero_iff.1 (by omega)
        have k2 : kids' = [] := List.length_eq_zero_iff.1 (by omega)
        simp [sameT, Tm.tv, Tm.kids, stop, e1, e2, e3, e4, k1, k2, all2] at h
      obtain ⟨W1, hW1, hB1, hba, hbb, hsz⟩ := two_new w ⟨k, N, s, a, len, cap⟩ ⟨k', N', s', a', len', cap'⟩
      have hsm := hB2 W1 hB1
      simp only at hW1
      have b0 := hba.c0
      have b1 := hba.c1
      have b2 := hba.c2
      have b3 := hba.c3
      have d0 := hbb.c0
      have d1 := hbb.c1
      have d2 := hbb.c2
      have d3 := hbb.c3
      simp only at b0 b1 b2 b3 d0 d1 d2 d3
      have hy0 : w.heap.size < W1.heap.size := hba.lt
      have hy1 : w.heap.size + 1 < W1.heap.size := hbb.lt
      have HB1 := hide hB1
      have HBA := hide hba
      have HBB := hide hbb
      simp only [TV.val, Tm.tv] at hsm ⊢
      by_cases hk4 : k = 4
      · have hd : sameT (n := n + 1) ((⟨k, N, s, a, len, cap⟩, kids) : TV × List (Tm n)) ((⟨k', N', s', a', len', cap'⟩, kids') : TV × List (Tm n)) = false := by
          cases h : sameT (n := n + 1) ((⟨k, N, s, a, len, cap⟩, kids) : TV × List (Tm n)) ((⟨k', N', s', a', len', cap'⟩, kids') : TV × List (Tm n)) with
          | false => rfl
          | true =>
            simp only [sameT, Tm.tv, Tm.kids, Bool.and_eq_true] at h
            have h1 := h.1
            simp [stop] at h1
            exact (hall ⟨hk4, h1.1 ▸ hk4, h1.2.2.1, h1.2.2.2⟩).elim
        rw [hd] at hsm
        have hap : apart (⟨k, N, s, a, len, cap⟩ : TV) ⟨k', N', s', a', len', cap'⟩ = true := by
          have : stop (⟨k, N, s, a, len, cap⟩ : TV) ⟨k', N', s', a', len', cap'⟩ = false := by
            cases h : stop (⟨k, N, s, a, len, cap⟩ : TV) ⟨k', N', s', a', len', cap'⟩ with
            | false => rfl
            | true =>
              simp [stop] at h
              exact (hall ⟨hk4, h.1 ▸ hk4, h.2.2.1, h.2.2.2⟩).elim
          simp [apart, this]
        rw [hpa hap]
        subst hk4
        by_cases hk4' : k' = 4
        · subst hk4'
          by_cases hs : s.toList = s'.toList
          · have hs' : (s.toList == s'.toList) = true := by simp [hs]
            have hl' : ((len : Int) == (len' : Int)) = false := by simp; exact fun e => hall ⟨rfl, rfl, hs, by omega⟩
            clear hkids hkids' wx wy ox oy okx oky hlen hlen' hpa hpl hst hsamef hap hd hB2 ih hall hs hba hbb hB1 hsz
            go_enter Tryz.func80, Tryz.ntmps80
            go_wp2_with fail
            refine hsm.mono ?_
            clear hsm
            rintro e W3 ⟨rfl, hb3⟩
            have hB3 : Below w.heap.size w W3 := (unhide HB1).trans (hb3.mono (unhide HB1).size)
            have hba3 := boxT_on (unhide HBA) hb3
            have hbb3 := boxT_on (unhide HBB) hb3
            have p0 := hba3.c0
            have p1 := hba3.c1
            have p2 := hba3.c2
            have p3 := hba3.c3
            have q0 := hbb3.c0
            have q1 := hbb3.c1
            have q2 := hbb3.c2
            have q3 := hbb3.c3
            simp only at p0 p1 p2 p3 q0 q1 q2 q3
            clear hba3 hbb3 hb3 hW1
            go_wp2_with fail
            exact bodyPost_ret (v := .slice (some ⟨W3.heap.size, 0, none⟩) 1 1) (by simp [results, Tryz.results80, go_sem]) rfl (one_pair hB3 (unhide HX) (unhide HY) hn)
          · have hs' : (s.toList == s'.toList) = false := by simp [hs]
            clear hkids hkids' wx wy ox oy okx oky hlen hlen' hpa hpl hst hsamef hap hd hB2 ih hall hs hba hbb hB1 hsz
            go_enter Tryz.func80, Tryz.ntmps80
            go_wp2_with fail
            refine hsm.mono ?_
            clear hsm
            rintro e W3 ⟨rfl, hb3⟩
            have hB3 : Below w.heap.size w W3 := (unhide HB1).trans (hb3.mono (unhide HB1).size)
            have hba3 := boxT_on (unhide HBA) hb3
            have hbb3 := boxT_on (unhide HBB) hb3
            have p0 := hba3.c0
            have p1 := hba3.c1
            have p2 := hba3.c2
            have p3 := hba3.c3
            have q0 := hbb3.c0
            have q1 := hbb3.c1
            have q2 := hbb3.c2
            have q3 := hbb3.c3
            simp only at p0 p1 p2 p3 q0 q1 q2 q3
            clear hba3 hbb3 hb3 hW1
            go_wp2_with fail
            exact bodyPost_ret (v := .slice (some ⟨W3.heap.size, 0, none⟩) 1 1) (by simp [results, Tryz.results80, go_sem]) rfl (one_pair hB3 (unhide HX) (unhide HY) hn)
        · have hk4b : (k' == 4) = false := by simp [hk4']
          clear hkids hkids' wx wy ox oy okx oky hlen hlen' hpa hpl hst hsamef hap hd hB2 ih hall hk4' hba hbb hB1 hsz
          go_enter Tryz.func80, Tryz.ntmps80
          go_wp2_with fail
          refine hsm.mono ?_
          clear hsm
          rintro e W3 ⟨rfl, hb3⟩
          have hB3 : Below w.heap.size w W3 := (unhide HB1).trans (hb3.mono (unhide HB1).size)
          have hba3 := boxT_on (unhide HBA) hb3
          have hbb3 := boxT_on (unhide HBB) hb3
          have p0 := hba3.c0
          have p1 := hba3.c1
          have p2 := hba3.c2
          have p3 := hba3.c3
          have q0 := hbb3.c0
          have q1 := hbb3.c1
          have q2 := hbb3.c2
          have q3 := hbb3.c3
          simp only at p0 p1 p2 p3 q0 q1 q2 q3
          clear hba3 hbb3 hb3 hW1
          go_wp2_with fail
          exact bodyPost_ret (v := .slice (some ⟨W3.heap.size, 0, none⟩) 1 1) (by simp [results, Tryz.results80, go_sem]) rfl (one_pair hB3 (unhide HX) (unhide HY) hn)
      · have hk4b : (k == 4) = false := by simp [hk4]
        by_cases hk1 : k = 1
        · have hap : apart (⟨k, N, s, a, len, cap⟩ : TV) ⟨k', N', s', a', len', cap'⟩ = true := by simp [apart, hk1]
          rw [hpa hap]
          have hk1b : (k != 1) = false := by simp [hk1]
          clear hkids hkids' wx wy ox oy okx oky hlen hlen' hpa hpl hst hsamef hap hB2 ih hall hk4 hk1 hba hbb hB1 hsz hsm
          go_enter Tryz.func80, Tryz.ntmps80
          go_wp2_with fail
          exact bodyPost_ret (v := .slice (some ⟨W1.heap.size, 0, none⟩) 1 1) (by simp [results, Tryz.results80, go_sem]) rfl (one_pair (unhide HB1) (unhide HX) (unhide HY) hn)
        · have hk1b : (k != 1) = true := by simp [hk1]
          cases hd : sameT (n := n + 1) ((⟨k, N, s, a, len, cap⟩, kids) : TV × List (Tm n)) ((⟨k', N', s', a', len', cap'⟩, kids') : TV × List (Tm n)) with
          | true =>
            rw [hd] at hsm
            have hstp : stop (⟨k, N, s, a, len, cap⟩ : TV) ⟨k', N', s', a', len', cap'⟩ = true := by
              simp only [sameT, Tm.tv, Tm.kids, Bool.and_eq_true] at hd
              exact hd.1
            have hap : apart (⟨k, N, s, a, len, cap⟩ : TV) ⟨k', N', s', a', len', cap'⟩ = false := by simp [apart, hk1, hstp]
            have h0 : len = 0 := by
              rcases wm_cases wx with ⟨h, _⟩ | ⟨_, h⟩ | ⟨h, _⟩
              · exact (hk1 h).elim
              · exact h
              · exact (hk4 h).elim
            have k1 : kids = [] := List.length_eq_zero_iff.1 (by omega)
            have hR0 : R = [] := by rw [hpl hap, k1]; simp [zf]
            subst hR0
            clear hkids hkids' wx wy ox oy okx oky hlen hlen' hpa hpl hst hsamef hap hd hstp h0 k1 hB2 ih hall hk4 hk1 hba hbb hB1 hsz
            go_enter Tryz.func80, Tryz.ntmps80
            go_wp2_with fail
            refine hsm.mono ?_
            clear hsm
            rintro e W3 ⟨rfl, hb3⟩
            have hB3 : Below w.heap.size w W3 := (unhide HB1).trans (hb3.mono (unhide HB1).size)
            have hba3 := boxT_on (unhide HBA) hb3
            have hbb3 := boxT_on (unhide HBB) hb3
            have p0 := hba3.c0
            have p1 := hba3.c1
            have p2 := hba3.c2
            have p3 := hba3.c3
            have q0 := hbb3.c0
            have q1 := hbb3.c1
            have q2 := hbb3.c2
            have q3 := hbb3.c3
            simp only at p0 p1 p2 p3 q0 q1 q2 q3
            clear hba3 hbb3 hb3 hW1
            go_wp2_with fail
            exact bodyPost_ret (v := .slice none 0 0) (by simp [results, Tryz.results80, go_sem]) rfl ⟨none, 0, 0, [], rfl, hB3, MadeP.zero _ _ _ _⟩
          | false =>
            rw [hd] at hsm
            have hap : apart (⟨k, N, s, a, len, cap⟩ : TV) ⟨k', N', s', a', len', cap'⟩ = true := by
              have : stop (⟨k, N, s, a, len, cap⟩ : TV) ⟨k', N', s', a', len', cap'⟩ = false := by
                cases h : stop (⟨k, N, s, a, len, cap⟩ : TV) ⟨k', N', s', a', len', cap'⟩ with
                | false => rfl
                | true =>
                  simp [stop] at h
                  exact (hsamef hd h.1 h.2.2.1 h.2.2.2 h.2.1 hk4).elim
              simp [apart, this]
            rw [hpa hap]
            clear hkids hkids' wx wy ox oy okx oky hlen hlen' hpa hpl hst hsamef hap hd hB2 ih hall hk4 hk1 hba hbb hB1 hsz
            go_enter Tryz.func80, Tryz.ntmps80
            go_wp2_with fail
            refine hsm.mono ?_
            clear hsm
            rintro e W3 ⟨rfl, hb3⟩
            have hB3 : Below w.heap.size w W3 := (unhide HB1).trans (hb3.mono (unhide HB1).size)
            have hba3 := boxT_on (unhide HBA) hb3
            have hbb3 := boxT_on (unhide HBB) hb3
            have p0 := hba3.c0
            have p1 := hba3.c1
            have p2 := hba3.c2
            have p3 := hba3.c3
            have q0 := hbb3.c0
            have q1 := hbb3.c1
            have q2 := hbb3.c2
            have q3 := hbb3.c3
            simp only at p0 p1 p2 p3 q0 q1 q2 q3
            clear hba3 hbb3 hb3 hW1
            go_wp2_with fail
            exact bodyPost_ret (v := .slice (some ⟨W3.heap.size, 0, none⟩) 1 1) (by simp [results, Tryz.results80, go_sem]) rfl (one_pair hB3 (unhide HX) (unhide HY) hn)
end Go.Proofs.YtcjeeagnfmipgaaGreatDoor

/- The contract of hornref.laid: a variable for each pair in the list, else the parts laid out (Gc). -/
namespace Go.Proofs.YtcjeeagnfmipgaaGreatDoor
open Go.RowKit Go.Shelf Go.Maps

/-- As args_end, with one box more. -/
theorem args_end3 {D : Nat} {ns : Nat} {W wr : World} {k N : Int} {s : ByteArray} {len : Nat} {v : Value} {l : List TV} {c : List Nd} (hl : l.length = len) (hl50 : len ≤ 50) (hs : s.size ≤ 9223372036854775807) (hB : Below W.heap.size W wr) (hns : ns ≤ W.heap.size)
    (hm : Made D (Mix ns (W.heap.size + 3)) (W.heap.size + 3) wr v l c) :
    ∃ a' cap', v = .slice a' len cap' ∧ (let x : TV := ⟨k, N, s, a', len, cap'⟩
      Below W.heap.size W (set4 (wr.setCell ⟨W.heap.size, 3, none⟩ v) (W.heap.size + 2) 0 x) ∧ HoldsS (D + 1) (Mix ns W.heap.size) (set4 (wr.setCell ⟨W.heap.size, 3, none⟩ v) (W.heap.size + 2) 0 x) x.val ((k, N, s.toList, len) :: c)) := by
  have hoc := owns_cells hm.owns
  obtain ⟨a', cap', hv⟩ : ∃ a' cap', v = .slice a' len cap' := by
    rcases hoc with ⟨hv, hn⟩ | ⟨g, cp, hv, _⟩
    · subst hn; simp at hl; subst hl; exact ⟨none, 0, hv⟩
    · exact ⟨_, cp, by rw [hv, hl]⟩
  refine ⟨a', cap', hv, ?_⟩
  intro x
  have hother : ∀ b, b ≠ W.heap.size → b ≠ W.heap.size + 2 → (set4 (wr.setCell ⟨W.heap.size, 3, none⟩ v) (W.heap.size + 2) 0 x).heap[b]? = wr.heap[b]? := fun b h1 h2 =>
    (set4_other _ _ 0 x h2).trans (Below.heap_setCell _ _ _ _ h1)
  have hsz' : (set4 (wr.setCell ⟨W.heap.size, 3, none⟩ v) (W.heap.size + 2) 0 x).heap.size = wr.heap.size := by rw [set4_size]; simp
  refine ⟨set4_below (hB.setCell (p := ⟨W.heap.size, 3, none⟩) (Nat.le_refl _) _) (by omega) 0 x, fun m hm' hlim => ?_⟩
  obtain ⟨M, rfl⟩ : ∃ M, m = M + 1 := ⟨m - 1, by omega⟩
  obtain ⟨ks, k1, k2, k3⟩ := hm.kids M (by omega) (by omega)
  have hcl : len ≤ cap' := by
    rcases hm.owns.2 with ⟨h, hn⟩ | ⟨g, cp, cur, h, _, _, hnc, _⟩
    · omega
    · rw [hv] at h
      simp at h
      omega
  have hkl : ks.length = len := by rw [← hl, ← k1]; simp
  have hT : ∀ u ∈ ks, IsT wr.heap.size (set4 (wr.setCell ⟨W.heap.size, 3, none⟩ v) (W.heap.size + 2) 0 x) u := fun u hu =>
    (k2 u hu).1.fromS (fun b hb => hother b (by have := hb.2; unfold Mix at this; omega) (by have := hb.2; unfold Mix at this; omega)) (k2 u hu).2
  have hS : ∀ u ∈ ks, BlkT (Mix ns W.heap.size) u := fun u hu => (k2 u hu).2.mono fun b hb => by have := hb.2; unfold Mix at this ⊢; omega
  refine ⟨((x, ks) : TV × List (Tm M)), rfl, ?_, ?_, ?_⟩
  · rw [hsz']
    refine ⟨hkl.symm, ⟨?_, hcl, hlim⟩, hs, ?_⟩
    · show len ≤ _
      omega
    · rcases hoc with ⟨_, hn⟩ | ⟨g, cp, hv2, hg1, hg2, hcells⟩
      · left
        show ks = []
        apply List.length_eq_zero_iff.1
        rw [hkl, ← hl, hn]; rfl
      · right
        rw [hv] at hv2
        simp at hv2
        obtain ⟨e1, _, _⟩ := hv2
        refine ⟨g, 0, e1, hg2, fun j u hu => ⟨?_, hT u (List.mem_of_getElem? hu)⟩⟩
        rw [Nat.zero_add]
        have hu' : ks[j]? = some u := hu
        have : l[j]? = some u.tv := by rw [← k1, List.getElem?_map, hu']; rfl
        exact (hcells j u.tv this).kept (hother g (by omega) (by omega))
  · refine ⟨?_, hS⟩
    rcases hoc with ⟨_, hn⟩ | ⟨g, cp, hv2, hg1, hg2, hcells⟩
    · left
      show ks = []
      apply List.length_eq_zero_iff.1
      rw [hkl, ← hl, hn]; rfl
    · right
      rw [hv] at hv2
      simp at hv2
      obtain ⟨e1, _, _⟩ := hv2
      exact ⟨g, 0, e1, by unfold Mix; omega⟩
  · rw [code_succ, k3]; rfl


theorem row_slice {W : World} {base : Nat} {e : TypeId} {sz : Nat} {v : Value} {n : Nat} {xs : List Value} (h : W.ownsRow base e sz v n xs) : ∃ a cap, v = .slice a n cap := by
  obtain ⟨_, h2⟩ := h
  rcases h2 with ⟨hv, hn⟩ | ⟨g, cap, cur, hv, _⟩
  · exact ⟨none, 0, by rw [hv, hn]⟩
  · exact ⟨_, cap, hv⟩
theorem three_z (w : World) (x y : TV) : ∃ W3, ((w.alloc (.cells #[.int .i64 x.k, .int .i64 x.N, .string x.s, .slice x.a x.len x.cap] 24)).alloc (.cells #[.int .i64 y.k, .int .i64 y.N, .string y.s, .slice y.a y.len y.cap] 24)).alloc (.cells #[.int .i64 0, .int .i64 0, .string ⟨#[]⟩, .slice none 0 0] 24) = W3 ∧ Below w.heap.size w W3 ∧ BoxT W3 w.heap.size x ∧ BoxT W3 (w.heap.size + 1) y ∧ W3.heap[w.heap.size + 2]? = some (.cells #[.int .i64 0, .int .i64 0, .string ⟨#[]⟩, .slice none 0 0] 24 (0, 0)) ∧ W3.heap.size = w.heap.size + 3 := by
  obtain ⟨W2, h1, h2, h3, h4, h5⟩ := two_new w x y
  rw [h1]
  refine ⟨_, rfl, h2.alloc (by omega) _, h3.alloc _, h4.alloc _, ?_, by simp [h5]⟩
  have := World.alloc_heap_new W2 (.cells #[.int .i64 0, .int .i64 0, .string ⟨#[]⟩, .slice none 0 0] 24)
  rw [h5] at this
  exact this

/-- What laid answers. -/
def LaidSays (D : Nat) (W : World) (c : List Nd) (e : Ending) (W' : World) : Prop := ∃ x : TV, e = .returned x.val ∧ Below W.heap.size W W' ∧ HoldsS D (Mix 0 W.heap.size) W' x.val c

set_option maxRecDepth 100000 in
set_option maxHeartbeats 2000000 in
theorem laid_comp {m n D : Nat} (ps : List (Tm m × Tm m)) (la : Option Addr) (ll lc : Nat)
    (ih : ∀ (x y : Tm n) (W : World), IsP W.heap.size W la ll ps → IsT W.heap.size W x → IsT W.heap.size W y → okT x = true → okT y = true → (∀ q ∈ prs x y, q ∈ cpP ps) → Calls Tryz.prog 82 #[x.tv.val, y.tv.val, .slice la ll lc] W (LaidSays D W (Gc (ιP (cpP ps)) x y)))
    (k N : Int) (s s' : ByteArray) (k' N' : Int) (a a' : Option Addr) (len cap len' cap' : Nat) (kids kids' : List (Tm n)) (W : World) (hP : IsP W.heap.size W la ll ps)
    (hnt : ∀ W2, Below W.heap.size W W2 → Calls Tryz.prog 81 #[.slice la ll lc, .agg #[.int .i64 k, .int .i64 N, .string s, .slice a len cap], .agg #[.int .i64 k', .int .i64 N', .string s', .slice a' len' cap']] W2 fun e W3 => e = .returned (.int .i64 (-1)) ∧ Below W2.heap.size W2 W3)
    (hlq : len = len') (hlen : len = kids.length) (hlen' : len' = kids'.length) (hl50 : len ≤ 50) (hs : s.size ≤ 9223372036854775807)
    (hkids : kids = [] ∨ ∃ b off, a = some ⟨b, off, none⟩ ∧ b < W.heap.size ∧ ∀ j u, kids[j]? = some u → cellsAt W b (off + j * 4) u.tv ∧ IsT W.heap.size W u)
    (hkids' : kids' = [] ∨ ∃ b off, a' = some ⟨b, off, none⟩ ∧ b < W.heap.size ∧ ∀ j u, kids'[j]? = some u → cellsAt W b (off + j * 4) u.tv ∧ IsT W.heap.size W u)
    (ok : ∀ u ∈ kids, okT u = true) (ok' : ∀ u ∈ kids', okT u = true) (hsub : ∀ (j : Nat) u v, kids[j]? = some u → kids'[j]? = some v → ∀ q ∈ prs u v, q ∈ cpP ps) :
    Calls Tryz.prog 82 #[.agg #[.int .i64 k, .int .i64 N, .string s, .slice a len cap], .agg #[.int .i64 k', .int .i64 N', .string s', .slice a' len' cap'], .slice la ll lc] W (LaidSays (D + 1) W ((k, N, s.toList, len) :: zf (Gc (ιP (cpP ps))) kids kids')) := by
  have hl1 : len ≤ kids.length := by omega
  have hl2 : kids.length ≤ len := by omega
  have hl3 : len ≤ kids'.length := by omega
  have hl4 : kids'.length ≤ len := by omega
  have hl5 : (len : Int) ≤ len' := by omega
  obtain ⟨W3, hW3, hB3, hba, hbb, hbz, hsz⟩ := three_z W ⟨k, N, s, a, len, cap⟩ ⟨k', N', s', a', len', cap'⟩
  simp only at hW3
  have hn3 := hnt W3 hB3
  have b0 := hba.c0
  have b1 := hba.c1
  have b2 := hba.c2
  have b3 := hba.c3
  have d0 := hbb.c0
  have d1 := hbb.c1
  have d2 := hbb.c2
  have d3 := hbb.c3
  simp only at b0 b1 b2 b3 d0 d1 d2 d3
  obtain ⟨i0, hi, hz0, hz1, hz2⟩ := info_parts Tryz.info28
  have HI := hide ih
  have HP := hide hP
  have HO := hide ok
  have HO' := hide ok'
  have HSUB := hide hsub
  have HB3 := hide hB3
  have HBA := hide hba
  have HBB := hide hbb
  have HBZ := hide hbz
  have HSZ := hide hsz
  clear ih hP ok ok' hsub hB3 hba hbb hbz hsz hnt hlq hlen hlen'
  go_enter Tryz.func82, Tryz.ntmps82
  go_wp2_with fail
  refine hn3.mono ?_
  clear hn3 b0 b1 b2 b3 d0 d1 d2 d3 hW3
  rintro e W4 ⟨rfl, hb4⟩
  have hB4 : Below W.heap.size W W4 := (unhide HB3).trans (hb4.mono (unhide HB3).size)
  have hs4 : W.heap.size + 3 ≤ W4.heap.size := by have := hb4.size; have := unhide HSZ; omega
  have hba4 : BoxT W4 W.heap.size ⟨k, N, s, a, len, cap⟩ := boxT_on (unhide HBA) hb4
  have hbb4 : BoxT W4 (W.heap.size + 1) ⟨k', N', s', a', len', cap'⟩ := boxT_on (unhide HBB) hb4
  have hbz4 := (hb4.block (W.heap.size + 2) (by have := unhide HSZ; omega)).trans (unhide HBZ)
  have HB4 := hide hB4
  have HBA4 := hide hba4
  have HBB4 := hide hbb4
  have HBZ4 := hide hbz4
  clear hb4 hB4 hba4 hbb4 hbz4 HB3 HBA HBB HBZ HSZ
  go_wp2_with fail
  go_loopw [8, 9] (fun av i wr => ∃ (j : Nat) (l : List TV), j ≤ len ∧ i = .int .i64 j ∧ l.length = j ∧ Below (W.heap.size + 3) W4 wr ∧ Made D (Mix 0 (W.heap.size + 3)) (W.heap.size + 3) wr av l (zf (Gc (ιP (cpP ps))) (kids.take j) (kids'.take j))) (fun _ i _ => len - (intOf i).toNat)
  case atStart => exact ⟨0, [], Nat.zero_le _, rfl, rfl, Below.refl _ _, by simpa [zf] using Made.zero _ _ _ _⟩
  case round =>
    obtain ⟨j, l, hj, rfl, hll, hb, hm⟩ := hrel
    have hbs := hb.size
    have hbw : Below W.heap.size W wr := (unhide HB4).trans (hb.mono (by omega))
    have hbar : BoxT wr W.heap.size ⟨k, N, s, a, len, cap⟩ := (hb.block _ (by omega)).trans (unhide HBA4)
    have hbbr : BoxT wr (W.heap.size + 1) ⟨k', N', s', a', len', cap'⟩ := (hb.block _ (by omega)).trans (unhide HBB4)
    have hbzr := (hb.block (W.heap.size + 2) (by omega)).trans (unhide HBZ4)
    have b3 := hbar.c3
    have d3 := hbbr.c3
    simp only at b3 d3
    have HM := hide hm
    have HLL := hide hll
    clear hll
    obtain ⟨va, vc, rfl⟩ := row_slice hm.owns
    by_cases hlt : j < len
    · obtain ⟨u, bk, off, hu, rfl, ⟨c0, c1, c2, c3⟩, hT, hbk2⟩ := kid_at hkids hbw hlt hl1
      obtain ⟨v, bk', off', hv, rfl, ⟨e0, e1, e2, e3⟩, hT', hbk2'⟩ := kid_at hkids' hbw hlt hl3
      have hj1 : (j : Int) < len := by omega
      have hj2 : (j : Int) < len' := by omega
      have hdr : Below wr.heap.size wr wr.drew := (Below.refl _ wr).drew
      have hPw : IsP wr.drew.heap.size wr.drew la ll ps := ((unhide HP).below hbw.drew).mono hbw.drew.size
      have hzf := zfU_take (f := Gc (ιP (cpP ps))) kids kids' j u v hu hv
      have ihu := ((unhide HI) u v wr.drew hPw (hT.below hdr) (hT'.below hdr) ((unhide HO) u (List.mem_of_getElem? hu)) ((unhide HO') v (List.mem_of_getElem? hv)) ((unhide HSUB) j u v hu hv)).mono
        (R' := fun e W5 => ∃ x : TV, e = .returned x.val ∧ Below wr.heap.size wr W5 ∧ HoldsS D (Mix 0 wr.heap.size) W5 x.val (Gc (ιP (cpP ps)) u v)) (fun e W5 h => by
          obtain ⟨x, g1, g2, g3⟩ := h
          exact ⟨x, g1, hdr.trans g2, g3⟩)
      have hy0 : W.heap.size < wr.heap.size := by omega
      have hy1 : W.heap.size + 1 < wr.heap.size := by omega
      have hy2 : bk < wr.heap.size := by omega
      have hy3 : bk' < wr.heap.size := by omega
      have hx0 : W.heap.size < W.heap.size + 3 := by omega
      have hx1 : W.heap.size + 1 < W.heap.size + 3 := by omega
      have hx2 : bk < W.heap.size + 3 := by omega
      have hx3 : bk' < W.heap.size + 3 := by omega
      have HZF := hide hzf
      clear hkids hkids' hT hT' hu hv hzf hdr hPw hm hbar hbbr hbzr
      simp only [TV.val] at ihu
      go_wp2_with fail
      refine wp_region_noPanic ?_
      refine wp_region_held_drew (S := (fun w' => w'.cell? ⟨W.heap.size, 3, none⟩ = some (.slice (some ⟨bk, off, none⟩) len cap) ∧ w'.cell? ⟨W.heap.size + 1, 3, none⟩ = some (.slice (some ⟨bk', off', none⟩) len' cap') ∧ w'.cell? ⟨bk, off + j * 4, none⟩ = some (.int .i64 u.tv.k) ∧ w'.cell? ⟨bk, off + j * 4 + 1, none⟩ = some (.int .i64 u.tv.N) ∧ w'.cell? ⟨bk, off + j * 4 + 2, none⟩ = some (.string u.tv.s) ∧ w'.cell? ⟨bk, off + j * 4 + 3, none⟩ = some (.slice u.tv.a u.tv.len u.tv.cap) ∧ w'.cell? ⟨bk', off' + j * 4, none⟩ = some (.int .i64 v.tv.k) ∧ w'.cell? ⟨bk', off' + j * 4 + 1, none⟩ = some (.int .i64 v.tv.N) ∧ w'.cell? ⟨bk', off' + j * 4 + 2, none⟩ = some (.string v.tv.s) ∧ w'.cell? ⟨bk', off' + j * 4 + 3, none⟩ = some (.slice v.tv.a v.tv.len v.tv.cap))) (by kernel_rfl) ?_ (fun hHeld => ?_)
      · go_keep
      refine wpAnyH_take (i := 0) (oi := { dst := some 25, op := Op.move (Operand.tmp 8), type := 22, pos := "term.go:293", after := #[], guard := none }) (v := ?_) rfl (by kernel_rfl) (by kernel_rfl) (by kernel_rfl) (fun _ _ _ h => h) (Or.inl ⟨by rfl, ?_⟩) hHeld ?_
      rotate_left
      · (intro w' hSw; (try dsimp only at hSw); go_simp; try with_reducible rfl)
      try simp only [Act.put, List.setIfInBounds_toArray, List.set_cons_zero, List.set_cons_succ]
      refine wpAnyH_take (i := 1) (oi := { dst := some 26, op := Op.fieldAddr 24 (Operand.tmp 3) 3, type := 0, pos := "term.go:293", after := #[], guard := none }) (v := ?_) rfl (by kernel_rfl) (by kernel_rfl) (by kernel_rfl) (fun _ _ _ h => h) (Or.inl ⟨by rfl, ?_⟩) hHeld ?_
      rotate_left
      · (intro w' hSw; (try dsimp only at hSw); go_simp; try with_reducible rfl)
      try simp only [Act.put, List.setIfInBounds_toArray, List.set_cons_zero, List.set_cons_succ]
      refine wpAnyH_take (i := 2) (oi := { dst := some 27, op := Op.load 22 (Operand.tmp 26), type := 22, pos := "term.go:293", after := #[{ on := 1, ground := Ground.data }], guard := none }) (v := ?_) rfl (by kernel_rfl) (by kernel_rfl) (by kernel_rfl) (fun _ _ _ h => h) (Or.inl ⟨by rfl, ?_⟩) hHeld ?_
      rotate_left
      · (intro w' hSw; (try dsimp only at hSw); go_simp; try with_reducible rfl)
      try simp only [Act.put, List.setIfInBounds_toArray, List.set_cons_zero, List.set_cons_succ]
      refine wpAnyH_take (i := 3) (oi := { dst := some 28, op := Op.move (Operand.tmp 9), type := 3, pos := "term.go:293", after := #[], guard := none }) (v := ?_) rfl (by kernel_rfl) (by kernel_rfl) (by kernel_rfl) (fun _ _ _ h => h) (Or.inl ⟨by rfl, ?_⟩) hHeld ?_
      rotate_left
      · (intro w' hSw; (try dsimp only at hSw); go_simp; try with_reducible rfl)
      try simp only [Act.put, List.setIfInBounds_toArray, List.set_cons_zero, List.set_cons_succ]
      refine wpAnyH_take (i := 4) (oi := { dst := some 29, op := Op.indexAddr 22 (Operand.tmp 27) (Operand.tmp 28), type := 0, pos := "term.go:293", after := #[{ on := 2, ground := Ground.data }, { on := 3, ground := Ground.data }], guard := none }) (v := ?_) rfl (by kernel_rfl) (by kernel_rfl) (by kernel_rfl) (fun _ _ _ h => h) (Or.inl ⟨by rfl, ?_⟩) hHeld ?_
      rotate_left
      · (intro w' hSw; (try dsimp only at hSw); go_simp; try with_reducible rfl)
      try simp only [Act.put, List.setIfInBounds_toArray, List.set_cons_zero, List.set_cons_succ]
      refine wpAnyH_take (i := 5) (oi := { dst := some 30, op := Op.load 24 (Operand.tmp 29), type := 24, pos := "term.go:293", after := #[{ on := 4, ground := Ground.data }], guard := none }) (v := ?_) rfl (by kernel_rfl) (by kernel_rfl) (by kernel_rfl) (fun _ _ _ h => h) (Or.inl ⟨by rfl, ?_⟩) hHeld ?_
      rotate_left
      · (intro w' hSw; (try dsimp only at hSw); go_simp; try with_reducible rfl)
      try simp only [Act.put, List.setIfInBounds_toArray, List.set_cons_zero, List.set_cons_succ]
      refine wpAnyH_take (i := 6) (oi := { dst := some 31, op := Op.fieldAddr 24 (Operand.tmp 4) 3, type := 0, pos := "term.go:293", after := #[], guard := none }) (v := ?_) rfl (by kernel_rfl) (by kernel_rfl) (by kernel_rfl) (fun _ _ _ h => h) (Or.inl ⟨by rfl, ?_⟩) hHeld ?_
      rotate_left
      · (intro w' hSw; (try dsimp only at hSw); go_simp; try with_reducible rfl)
      try simp only [Act.put, List.setIfInBounds_toArray, List.set_cons_zero, List.set_cons_succ]
      refine wpAnyH_take (i := 7) (oi := { dst := some 32, op := Op.load 22 (Operand.tmp 31), type := 22, pos := "term.go:293", after := #[{ on := 6, ground := Ground.data }], guard := none }) (v := ?_) rfl (by kernel_rfl) (by kernel_rfl) (by kernel_rfl) (fun _ _ _ h => h) (Or.inl ⟨by rfl, ?_⟩) hHeld ?_
      rotate_left
      · (intro w' hSw; (try dsimp only at hSw); go_simp; try with_reducible rfl)
      try simp only [Act.put, List.setIfInBounds_toArray, List.set_cons_zero, List.set_cons_succ]
      refine wpAnyH_take (i := 8) (oi := { dst := some 33, op := Op.move (Operand.tmp 9), type := 3, pos := "term.go:293", after := #[], guard := none }) (v := ?_) rfl (by kernel_rfl) (by kernel_rfl) (by kernel_rfl) (fun _ _ _ h => h) (Or.inl ⟨by rfl, ?_⟩) hHeld ?_
      rotate_left
      · (intro w' hSw; (try dsimp only at hSw); go_simp; try with_reducible rfl)
      try simp only [Act.put, List.setIfInBounds_toArray, List.set_cons_zero, List.set_cons_succ]
      refine wpAnyH_take (i := 9) (oi := { dst := some 34, op := Op.indexAddr 22 (Operand.tmp 32) (Operand.tmp 33), type := 0, pos := "term.go:293", after := #[{ on := 7, ground := Ground.data }, { on := 8, ground := Ground.data }], guard := none }) (v := ?_) rfl (by kernel_rfl) (by kernel_rfl) (by kernel_rfl) (fun _ _ _ h => h) (Or.inl ⟨by rfl, ?_⟩) hHeld ?_
      rotate_left
      · (intro w' hSw; (try dsimp only at hSw); go_simp; try with_reducible rfl)
      try simp only [Act.put, List.setIfInBounds_toArray, List.set_cons_zero, List.set_cons_succ]
      refine wpAnyH_take (i := 10) (oi := { dst := some 35, op := Op.load 24 (Operand.tmp 34), type := 24, pos := "term.go:293", after := #[{ on := 9, ground := Ground.data }], guard := none }) (v := ?_) rfl (by kernel_rfl) (by kernel_rfl) (by kernel_rfl) (fun _ _ _ h => h) (Or.inl ⟨by rfl, ?_⟩) hHeld ?_
      rotate_left
      · (intro w' hSw; (try dsimp only at hSw); go_simp; try with_reducible rfl)
      try simp only [Act.put, List.setIfInBounds_toArray, List.set_cons_zero, List.set_cons_succ]
      refine wpAnyH_take (i := 11) (oi := { dst := some 36, op := Op.move (Operand.tmp 2), type := 110, pos := "term.go:293", after := #[], guard := none }) (v := ?_) rfl (by kernel_rfl) (by kernel_rfl) (by kernel_rfl) (fun _ _ _ h => h) (Or.inl ⟨by rfl, ?_⟩) hHeld ?_
      rotate_left
      · (intro w' hSw; (try dsimp only at hSw); go_simp; try with_reducible rfl)
      try simp only [Act.put, List.setIfInBounds_toArray, List.set_cons_zero, List.set_cons_succ]
      refine wpAnyH_ready (rs := [12]) (by kernel_rfl) (by simp) ?_
      refine AllReadyH.cons (o := { dst := some 37, op := Op.call { callee := Callee.value (Operand.func 82), args := #[Operand.tmp 30, Operand.tmp 35, Operand.tmp 36], argTypes := #[24, 24, 110] }, type := 24, pos := "term.go:293", after := #[{ on := 5, ground := Ground.data }, { on := 10, ground := Ground.data }, { on := 11, ground := Ground.data }], guard := none }) rfl (fun K hK => ?_) AllReadyH.nil
      have hHold := hHeld
      clear hHeld
      go_simp
      refine ihu.mono ?_
      clear ihu
      rintro e W5 ⟨x, rfl, hb5, hx⟩
      have hbc := bcell hb5
      dsimp only [TV.val]
      go_wp2_with fail
      refine hK.out _ _ ?_ (fun hHeld => ?_)
      · ((try dsimp only); go_keep)
      clear hK K hHold
      try simp only [Act.put, List.setIfInBounds_toArray, List.set_cons_zero, List.set_cons_succ]
      refine wpAnyH_ready (rs := [13]) (by kernel_rfl) (by simp) ?_
      refine AllReadyH.cons (o := { dst := some 38, op := Op.buildSlice 22 1 #[(0, Operand.tmp 37)], type := 22, pos := "term.go:293", after := #[{ on := 12, ground := Ground.data }], guard := none }) rfl (fun K hK => ?_) AllReadyH.nil
      have hHold := hHeld
      clear hHeld
      go_simp
      refine hK.out _ _ ?_ (fun hHeld => ?_)
      · ((try dsimp only); go_keep)
      clear hK K hHold
      try simp only [Act.put, List.setIfInBounds_toArray, List.set_cons_zero, List.set_cons_succ]
      refine wpAnyH_ready (rs := [14]) (by kernel_rfl) (by simp) ?_
      refine AllReadyH.cons (o := { dst := some 39, op := Op.call { callee := Callee.builtin Builtin.append, args := #[Operand.tmp 25, Operand.tmp 38], argTypes := #[22, 22] }, type := 22, pos := "term.go:293", after := #[{ on := 0, ground := Ground.data }, { on := 13, ground := Ground.data }, { on := 12, ground := Ground.chain }], guard := none }) rfl (fun K hK => ?_) AllReadyH.nil
      have hHold := hHeld
      clear hHeld
      have hs5 := hb5.size
      have hown5 : (W5.alloc (.cells #[.int .i64 x.k, .int .i64 x.N, .string x.s, .slice x.a x.len x.cap] 24)).ownsRow (W.heap.size + 3) 24 4 (.slice va l.length vc) l.length (l.flatMap TV.row) :=
        owns_below (unhide HM).owns (fun g hg => by
          have hlt := (owns_lt (unhide HM).owns hg).2
          exact (Below.heap_alloc _ _ _ (Nat.lt_of_lt_of_le hlt hb5.size)).trans (hb5.block g hlt))
      obtain ⟨u6, w6, hr6, hown6, hg6, _, hbk6⟩ := run_append_own_at (P := Tryz.prog) _ (W.heap.size + 3) 22 22 24 i0 _ 4 56 Tryz.underlying22 hi hz0 hz1 hz2 rfl (by decide) (.slice va l.length vc) l.length (l.flatMap TV.row) hown5 ⟨W5.heap.size, 0, none⟩ 1 1 x.row rfl new_cells row_one (by have := unhide HLL; unfold maxLen; omega) (by have := unhide HLL; omega) (by simp; omega)
      have hgl : ∀ g, (Value.slice va l.length vc).ownBlock = some g → W.heap.size + 3 ≤ g ∧ g < wr.heap.size := fun g hg => owns_lt (unhide HM).owns hg
      have hb6 : Below (W.heap.size + 3) W5 w6 := ((Below.refl _ W5).alloc (by omega) _).grown hg6 (by simp; omega) (fun g hg => (hgl g hg).1)
      have hbd : ∀ b o, b < W.heap.size + 3 → w6.cell? ⟨b, o, none⟩ = W5.cell? ⟨b, o, none⟩ := fun b o h => hb6.cell (p := ⟨b, o, none⟩) h
      obtain ⟨va6, vc6, rfl⟩ := row_slice hown6
      rw [if_pos (by rfl)]
      refine wp_append_row _ _ _ rfl rfl rfl hr6 ?_
      refine hK.out _ _ ?_ (fun hHeld => ?_)
      · ((try dsimp only); go_keep)
      clear hK K hHold
      try simp only [Act.put, List.setIfInBounds_toArray, List.set_cons_zero, List.set_cons_succ]
      refine wpAnyH_take (i := 15) (oi := { dst := some 8, op := Op.assign (Operand.tmp 39), type := 22, pos := "term.go:293", after := #[{ on := 14, ground := Ground.data }, { on := 14, ground := Ground.chain }, { on := 0, ground := Ground.phase }, { on := 1, ground := Ground.phase }, { on := 2, ground := Ground.phase }, { on := 3, ground := Ground.phase }, { on := 4, ground := Ground.phase }, { on := 5, ground := Ground.phase }, { on := 6, ground := Ground.phase }, { on := 7, ground := Ground.phase }, { on := 8, ground := Ground.phase }, { on := 9, ground := Ground.phase }, { on := 10, ground := Ground.phase }, { on := 11, ground := Ground.phase }, { on := 12, ground := Ground.phase }, { on := 13, ground := Ground.phase }, { on := 14, ground := Ground.phase }], guard := none }) (v := ?_) rfl (by kernel_rfl) (by kernel_rfl) (by kernel_rfl) (fun _ _ _ h => h) (Or.inl ⟨by rfl, ?_⟩) hHeld ?_
      rotate_left
      · (intro w' hSw; (try dsimp only at hSw); go_simp; try with_reducible rfl)
      try simp only [Act.put, List.setIfInBounds_toArray, List.set_cons_zero, List.set_cons_succ]
      refine wpAnyH_done (by kernel_rfl) ?_ _
      refine NoPanic.normal ?_
      clear hbc hbd
      have hmade := (unhide HM).next hb5 (hx.mono (Nat.le_refl _) (fun b hb => ⟨by unfold Mix at hb ⊢; omega, fun e => by have := hgl b e; unfold Mix at hb; omega⟩)) hown6 hg6 (by simpa using hbk6)
      rw [← unhide HZF] at hmade
      have hbel : Below (W.heap.size + 3) W4 w6 := (hb.trans (hb5.mono (by omega))).trans hb6
      have HMF := hide hmade
      clear hmade hown6 hown5 hg6 hr6 hb6 hx hbk6 hgl
      go_wp2_with fail
      exact ⟨⟨j + 1, l ++ [x], by omega, by go_num, by simp [unhide HLL], hbel, unhide HMF⟩, by simp [intOf]; omega⟩
    · have hjl : j = len := by omega
      have ht : kids.take j = kids := List.take_of_length_le (by omega)
      have ht' : kids'.take j = kids' := List.take_of_length_le (by omega)
      rw [ht, ht'] at hm
      obtain ⟨aa, cc, hv', hfin⟩ := args_end3 (k := k) (N := N) (s := s) (len := len) (by rw [unhide HLL, hjl]) hl50 hs hbw (Nat.zero_le _) hm
      obtain ⟨⟨z0, z1, z2, z3⟩, y0, y1, y2, y3⟩ := zbox_kept hbzr
      have x0 := hbar.c0
      have x1 := hbar.c1
      have x2 := hbar.c2
      have x3 := hbar.c3
      simp only at x0 x1 x2 x3
      have f3 : wr.frozen? ⟨W.heap.size, 3, none⟩ = false := by simp [World.frozen?, show wr.heap[W.heap.size]? = _ from hbar]
      simp only [Value.slice.injEq] at hv'
      obtain ⟨rfl, hle, rfl⟩ := hv'
      rw [hle] at hfin ⊢
      clear hle
      obtain ⟨f1, f2⟩ := hfin
      have F1 := hide f1
      have F2 := hide f2
      have hlt' : ¬ (j : Int) < (len : Int) := by omega
      clear f1 f2 hm ht ht' hkids hkids' hjl hbar hbbr hbzr
      go_wp2_with fail
      refine bodyPost_ret (v := (⟨k, N, s, va, len, vc⟩ : TV).val) ?_ rfl ⟨_, rfl, unhide F1, unhide F2⟩
      simp [results, Tryz.results82, go_sem, TV.val, z0, z1, z2, z3]
end Go.Proofs.YtcjeeagnfmipgaaGreatDoor

/- The contracts of hornref.laid, whatever the terms, and of hornref.General: the document's generalization is ours (lgg). -/
namespace Go.Proofs.YtcjeeagnfmipgaaGreatDoor
open Go.RowKit Go.Shelf Go.Maps

theorem apart_nd {x y x' y' : TV} (h1 : x.nd = x'.nd) (h2 : y.nd = y'.nd) : apart x y = apart x' y' := by
  have hk : x.k = x'.k := congrArg Prod.fst h1
  have hs : stop x y = stop x' y' := by
    rw [Bool.eq_iff_iff, ← nd_stop, ← nd_stop, h1, h2]
  unfold apart
  rw [hk, hs]
/-- All pairs of a list have nothing in common at the top. -/
def AllApart (cs : List Pr) : Prop := ∀ q ∈ cs, ∃ (n : Nat) (p r : Tm (n + 1)), q = (code p, code r) ∧ apart p.tv r.tv = true
theorem zf_all {n : Nat} {P : Pr → Prop} (hf : ∀ a b : Tm n, ∀ q ∈ prs a b, P q) : ∀ (a b : List (Tm n)), ∀ q ∈ zf prs a b, P q
  | [], _, q, h => by simp [zf] at h
  | _ :: _, [], q, h => by simp [zf] at h
  | x :: a, y :: b, q, h => by
    simp only [zf, List.mem_append] at h
    rcases h with h | h
    · exact hf x y q h
    · exact zf_all hf a b q h
theorem prs_allApart : ∀ {n : Nat} (a b : Tm n), AllApart (prs a b) := by
  intro n
  induction n with
  | zero => intro a; exact Empty.elim a
  | succ n ih =>
    intro a b
    cases h : apart a.tv b.tv with
    | true =>
      rw [prs_apart h]
      intro q hq
      simp at hq
      exact ⟨n, a, b, hq, h⟩
    | false =>
      rw [prs_like h]
      exact zf_all (P := fun q => ∃ (n : Nat) (p r : Tm (n + 1)), q = (code p, code r) ∧ apart p.tv r.tv = true) ih a.kids b.kids
theorem notin_like {cs : List Pr} (h : AllApart cs) {n : Nat} {x y : Tm (n + 1)} (hl : apart x.tv y.tv = false) : (code x, code y) ∉ cs := fun hm => by
  obtain ⟨m, p, r, hq, hp⟩ := h _ hm
  have h1 := congrArg Prod.fst hq
  have h2 := congrArg Prod.snd hq
  simp only at h1 h2
  rw [code_kids x, code_kids p] at h1
  rw [code_kids y, code_kids r] at h2
  simp only [List.cons.injEq] at h1 h2
  rw [apart_nd h1.1 h2.1, hp] at hl
  cases hl
theorem prs_kid {n : Nat} {x y : Tm (n + 1)} (hl : apart x.tv y.tv = false) {j : Nat} {u v : Tm n} (hu : x.kids[j]? = some u) (hv : y.kids[j]? = some v) : ∀ q ∈ prs u v, q ∈ prs x y := fun q hq => by
  rw [prs_like hl]
  have h1 := zfU_take (f := prs) x.kids y.kids j u v hu hv
  have h2 : ∀ (a b : List (Tm n)) (i : Nat), ∀ q ∈ zf prs (a.take i) (b.take i), q ∈ zf prs a b := by
    intro a
    induction a with
    | nil => intro b i q h; simp [zf] at h
    | cons z a ih =>
      intro b i q h
      cases b with
      | nil => simp [zf] at h
      | cons z' b =>
        cases i with
        | zero => simp [zf] at h
        | succ i =>
          simp only [List.take_succ_cons, zf, List.mem_append] at h ⊢
          rcases h with h | h
          · exact .inl h
          · exact .inr (ih b i q h)
  refine h2 _ _ (j + 1) q ?_
  rw [h1]
  exact List.mem_append.2 (.inr hq)

set_option maxRecDepth 100000 in
set_option maxHeartbeats 1000000 in
theorem laid_var {n : Nat} (la : Option Addr) (ll lc : Nat) (x y : Tm n) (i : Nat) (W : World)
    (hnt : ∀ W2, Below W.heap.size W W2 → Calls Tryz.prog 81 #[.slice la ll lc, x.tv.val, y.tv.val] W2 fun e W3 => e = .returned (.int .i64 (i : Nat)) ∧ Below W2.heap.size W2 W3) :
    Calls Tryz.prog 82 #[x.tv.val, y.tv.val, .slice la ll lc] W (LaidSays 1 W [varNd (i : Nat)]) := by
  obtain ⟨W3, hW3, hB3, hba, hbb, hbz, hsz⟩ := three_z W x.tv y.tv
  have hn3 := hnt W3 hB3
  have b0 := hba.c0
  have b1 := hba.c1
  have b2 := hba.c2
  have b3 := hba.c3
  have d0 := hbb.c0
  have d1 := hbb.c1
  have d2 := hbb.c2
  have d3 := hbb.c3
  have HB3 := hide hB3
  have HBZ := hide hbz
  have HSZ := hide hsz
  clear hB3 hba hbb hbz hsz hnt
  simp only [TV.val] at hn3 ⊢
  go_enter Tryz.func82, Tryz.ntmps82
  go_wp2_with fail
  refine hn3.mono ?_
  clear hn3 b0 b1 b2 b3 d0 d1 d2 d3 hW3
  rintro e W4 ⟨rfl, hb4⟩
  have hB4 : Below W.heap.size W W4 := (unhide HB3).trans (hb4.mono (unhide HB3).size)
  have hbz4 := (hb4.block (W.heap.size + 2) (by have := unhide HSZ; omega)).trans (unhide HBZ)
  have hs4 : W.heap.size + 2 < W4.heap.size := (Array.getElem?_eq_some_iff.1 hbz4).1
  have hv := v_any (i : Nat) W4
  simp only [TV.val, varV] at hv
  have HB4 := hide hB4
  have HBZ4 := hide hbz4
  clear hb4 hB4 hbz4 HB3 HBZ HSZ
  go_wp2_with fail
  refine hv.mono ?_
  clear hv
  rintro e W5 ⟨rfl, hb5⟩
  obtain ⟨⟨z0, z1, z2, z3⟩, y0, y1, y2, y3⟩ := zbox_kept ((hb5.block (W.heap.size + 2) hs4).trans (unhide HBZ4))
  have hfin : HoldsS 1 (Mix 0 W.heap.size) (set4 W5 (W.heap.size + 2) 0 (varV (i : Nat))) (varV (i : Nat)).val [varNd (i : Nat)] := (varV_holds (i : Nat) W.heap.size _).holdsS.mono (Nat.le_refl _) (fun b hb => .inr hb)
  have hbf : Below W.heap.size W (set4 W5 (W.heap.size + 2) 0 (varV (i : Nat))) := set4_below ((unhide HB4).trans (hb5.mono (unhide HB4).size)) (by omega) 0 _
  have HF := hide hfin
  have HBF := hide hbf
  clear hfin hbf hb5
  go_wp2_with fail
  refine bodyPost_ret (v := (varV (i : Nat)).val) ?_ rfl ⟨_, rfl, unhide HBF, unhide HF⟩
  simp [results, Tryz.results82, go_sem, TV.val, varV, z0, z1, z2, z3]

/-- hornref.laid, whatever the terms. -/
theorem laid_any {m : Nat} (ps : List (Tm m × Tm m)) (la : Option Addr) (ll lc : Nat) (hap : AllApart (cpP ps)) (hml : m ≤ 2199023255552) : ∀ (n : Nat) (x y : Tm n) (W : World), n ≤ m → IsP W.heap.size W la ll ps → IsT W.heap.size W x → IsT W.heap.size W y → okT x = true → okT y = true → (∀ q ∈ prs x y, q ∈ cpP ps) →
    Calls Tryz.prog 82 #[x.tv.val, y.tv.val, .slice la ll lc] W (LaidSays (n + 1) W (Gc (ιP (cpP ps)) x y)) := by
  intro n
  induction n with
  | zero => intro x; exact Empty.elim x
  | succ n ih =>
    intro x y W hnm hP hx hy ox oy hsub
    have hnt : ∀ W2, Below W.heap.size W W2 → Calls Tryz.prog 81 #[.slice la ll lc, x.tv.val, y.tv.val] W2 fun e W3 => e = .returned (.int .i64 (nthI (cpP ps) (code x, code y))) ∧ Below W2.heap.size W2 W3 := fun W2 hb => by
      obtain ⟨x', a1, a2, a3⟩ := lift_to ((hx.below hb).mono hb.size) m hnm hml
      obtain ⟨y', b1, b2, b3⟩ := lift_to ((hy.below hb).mono hb.size) m hnm hml
      have h := nth_any ps la ll lc x' y' W2 ((hP.below hb).mono hb.size) a2 b2
      rw [a1, b1, a3, b3] at h
      exact h
    cases hpp : apart x.tv y.tv with
    | true =>
      have hmem : (code x, code y) ∈ cpP ps := hsub _ (by rw [prs_apart hpp]; simp)
      have hni : nthI (cpP ps) (code x, code y) = ((cpP ps).idxOf (code x, code y) : Nat) := if_pos hmem
      rw [hni] at hnt
      rw [Gc_apart hpp]
      refine (laid_var la ll lc x y _ W hnt).mono fun e W' h => ?_
      obtain ⟨z, g1, g2, g3⟩ := h
      exact ⟨z, g1, g2, g3.mono (by omega) (fun _ h => h)⟩
    | false =>
      rw [nthI_no (notin_like hap hpp)] at hnt
      rw [Gc_like hpp]
      have hkid := fun (j : Nat) (u v : Tm n) (hu : x.kids[j]? = some u) (hv : y.kids[j]? = some v) q hq => hsub q (prs_kid hpp hu hv q hq)
      obtain ⟨_, hnd⟩ := apart_no hpp
      obtain ⟨⟨k, N, s, a, len, cap⟩, kids⟩ := x
      obtain ⟨⟨k', N', s', a', len', cap'⟩, kids'⟩ := y
      obtain ⟨wx, okx⟩ := ok_kids ox
      obtain ⟨wy, oky⟩ := ok_kids oy
      obtain ⟨hlen, hmax, hsm, hkids⟩ := hx
      obtain ⟨hlen', hmax', hsm', hkids'⟩ := hy
      have hl50 : len ≤ 50 := by
        simp only at wx
        rcases wm_cases wx with ⟨_, _, _, _, h⟩ | ⟨_, h⟩ | ⟨_, _, _, h⟩ <;> omega
      have hlq : len = len' := by simp only [Tm.tv, TV.nd, Prod.mk.injEq] at hnd; exact hnd.2.2.2
      exact laid_comp ps la ll lc (fun x y W h1 h2 h3 h4 h5 h6 => ih x y W (by omega) h1 h2 h3 h4 h5 h6) k N s s' k' N' a a' len cap len' cap' kids kids' W hP hnt hlq hlen hlen' hl50 hsm hkids hkids' okx oky hkid
end Go.Proofs.YtcjeeagnfmipgaaGreatDoor

