import Derived.Test.YtojefplapklbmaaGreatDoorMqs
import Derived.Test.YtojefplapklbmaaGreatDoorObs
/- The contract of hornref.unlike: the pairs of parts that have nothing in common (prs). -/
namespace Go.Proofs.YtojefplapklbmaaGreatDoor
open Go.RowKit Go.Shelf Go.Maps

theorem boxT_on {W W' : World} {b : Nat} {x : TV} (h : BoxT W b x) (hb : Below W.heap.size W W') : BoxT W' b x := (hb.block _ h.lt).trans h
theorem zfU_take {α β : Type} {f : α → α → List β} : ∀ (a b : List α) (j : Nat) (u v : α), a[j]? = some u → b[j]? = some v → zf f (a.take (j + 1)) (b.take (j + 1)) = zf f (a.take j) (b.take j) ++ f u v
  | [], _, _, _, _, h, _ => by simp at h
  | _ :: _, [], _, _, _, _, h => by simp at h
  | x :: a, y :: b, 0, u, v, h, h' => by
    simp at h h'; subst h; subst h'
    simp [zf]
  | x :: a, y :: b, j + 1, u, v, h, h' => by
    simp only [List.take_succ_cons, zf]
    rw [zfU_take a b j u v (by simpa using h) (by simpa using h'), List.append_assoc]
theorem zfU_len {n : Nat} (hf : ∀ a b : Tm n, (prs a b).length ≤ (code a).length) : ∀ (a b : List (Tm n)), (zf prs a b).length ≤ (a.flatMap code).length
  | [], _ => by simp [zf]
  | _ :: _, [] => by simp [zf]
  | x :: a, y :: b => by
    simp only [zf, List.length_append, List.flatMap_cons]
    have := hf x y
    have := zfU_len hf a b
    omega
theorem prsU_len : ∀ {n : Nat} (a b : Tm n), (prs a b).length ≤ (code a).length := by
  intro n
  induction n with
  | zero => intro a; exact Empty.elim a
  | succ n ih =>
    intro a b
    have hc := code_kids a
    cases h : apart a.tv b.tv with
    | true => rw [prs_apart h, hc]; simp
    | false =>
      rw [prs_like h, hc]
      have := zfU_len ih a.kids b.kids
      simp only [List.length_cons]
      omega

/-- What unlike answers. -/
def UnSays (D n₀ : Nat) (w : World) (c : List Pr) (e : Ending) (W' : World) : Prop :=
  ∃ a len cap l, e = .returned (.slice a len cap) ∧ Below w.heap.size w W' ∧ MadeP D n₀ w.heap.size W' (.slice a len cap) l c

set_option maxRecDepth 100000 in
set_option maxHeartbeats 2000000 in
theorem unlike_comp {n₀ n : Nat} (ih : ∀ (x y : Tm n) (w : World), IsT n₀ w x → IsT n₀ w y → n₀ ≤ w.heap.size → okT x = true → okT y = true → (code x).length ≤ 4194304 → Calls Tryz.prog 80 #[x.tv.val, y.tv.val] w (UnSays n n₀ w (prs x y)))
    (s s' : ByteArray) (a a' : Option Addr) (len cap len' cap' : Nat) (N N' : Int) (kids kids' : List (Tm n)) (w : World) (hn : n₀ ≤ w.heap.size) (hs : s.toList = s'.toList) (hlq : len = len') (hlen : len = kids.length) (hlen' : len' = kids'.length) (hmax : len ≤ 50) (hDl : n ≤ 2199023255552)
    (hkids : kids = [] ∨ ∃ b off, a = some ⟨b, off, none⟩ ∧ b < n₀ ∧ ∀ j u, kids[j]? = some u → cellsAt w b (off + j * 4) u.tv ∧ IsT n₀ w u)
    (hkids' : kids' = [] ∨ ∃ b off, a' = some ⟨b, off, none⟩ ∧ b < n₀ ∧ ∀ j u, kids'[j]? = some u → cellsAt w b (off + j * 4) u.tv ∧ IsT n₀ w u)
    (ok : ∀ u ∈ kids, okT u = true) (ok' : ∀ u ∈ kids', okT u = true) (hbig : (kids.flatMap code).length ≤ 4194304) :
    Calls Tryz.prog 80 #[.agg #[.int .i64 4, .int .i64 N, .string s, .slice a len cap], .agg #[.int .i64 4, .int .i64 N', .string s', .slice a' len' cap']] w (UnSays n n₀ w (zf prs kids kids')) := by
  have hs' : (s.toList == s'.toList) = true := by simp [hs]
  have hl' : ((len : Int) == (len' : Int)) = true := by simp; omega
  have hl1 : len ≤ kids.length := by omega
  have hl2 : kids.length ≤ len := by omega
  have hl3 : len ≤ kids'.length := by omega
  have hl4 : kids'.length ≤ len := by omega
  have hl5 : (len : Int) ≤ len' := by omega
  obtain ⟨W1, hW1, hB1, hba, hbb, hsz⟩ := two_new w ⟨4, N, s, a, len, cap⟩ ⟨4, N', s', a', len', cap'⟩
  simp only at hW1
  have b0 := hba.c0
  have b2 := hba.c2
  have b3 := hba.c3
  have d0 := hbb.c0
  have d2 := hbb.c2
  have d3 := hbb.c3
  simp only at b0 b2 b3 d0 d2 d3
  obtain ⟨i0, hi, hz0, hz1, hz2⟩ := info_parts Tryz.info_pair
  have HI := hide ih
  have HO := hide ok
  have HO' := hide ok'
  have HB1 := hide hB1
  have HSZ := hide hsz
  clear ih ok ok' hs hlen hlen' hlq hba hbb hB1 hsz
  go_enter Tryz.func80, Tryz.ntmps80
  go_wp2_with fail
  clear hW1 b0 b2 d0 d2
  go_loopw [5, 6] (fun av i wr => ∃ (j : Nat) (l : List (TV × TV)), j ≤ len ∧ i = .int .i64 j ∧ Below (w.heap.size + 2) W1 wr ∧ MadeP n n₀ (w.heap.size + 2) wr av l (zf prs (kids.take j) (kids'.take j))) (fun _ i _ => len - (intOf i).toNat)
  case atStart => exact ⟨0, [], Nat.zero_le _, rfl, Below.refl _ _, by simpa [zf] using MadeP.zero _ _ _ _⟩
  case round =>
    obtain ⟨j, l, hj, rfl, hb, hm⟩ := hrel
    have hsz := unhide HSZ
    have hbs := hb.size
    have hbw : Below w.heap.size w wr := (unhide HB1).trans (hb.mono (by omega))
    replace b3 := (hb.cell (p := ⟨w.heap.size, 3, none⟩) (by simp)).trans b3
    replace d3 := (hb.cell (p := ⟨w.heap.size + 1, 3, none⟩) (by simp)).trans d3
    have hll := hm.len
    have hcl := zfU_len prsU_len (kids.take j) (kids'.take j)
    have HM := hide hm
    obtain ⟨va, vc, rfl⟩ := hm.slice
    clear hm
    by_cases hlt : j < len
    · obtain ⟨u, bk, off, hu, rfl, ⟨c0, c1, c2, c3⟩, hT, hbk2⟩ := kid_below hkids (hbw.mono hn) hlt hl1
      obtain ⟨v, bk', off', hv, rfl, ⟨e0, e1, e2, e3⟩, hT', hbk2'⟩ := kid_below hkids' (hbw.mono hn) hlt hl3
      have hj1 : (j : Int) < len := by omega
      have hj2 : (j : Int) < len' := by omega
      have hdr : Below wr.heap.size wr wr.drew := (Below.refl _ wr).drew
      have hpre : ((kids.take j).flatMap code).length + (code u).length ≤ (kids.flatMap code).length := by
        have h1 : kids.flatMap code = (kids.take (j + 1)).flatMap code ++ (kids.drop (j + 1)).flatMap code := by rw [← List.flatMap_append, List.take_append_drop]
        rw [h1, code_take kids j u hu]
        simp only [List.length_append]
        omega
      have hpl := prsU_len u v
      have hzf := zfU_take (f := prs) kids kids' j u v hu hv
      have ihu := ((unhide HI) u v wr.drew (hT.below (hdr.mono (by omega))) (hT'.below (hdr.mono (by omega))) (show n₀ ≤ wr.heap.size by omega) ((unhide HO) u (List.mem_of_getElem? hu)) ((unhide HO') v (List.mem_of_getElem? hv)) (by omega)).mono
        (R' := fun e W5 => ∃ a5 l5 c5 lp, e = .returned (.slice a5 l5 c5) ∧ Below wr.heap.size wr W5 ∧ MadeP n n₀ wr.heap.size W5 (.slice a5 l5 c5) lp (prs u v)) (fun e W5 h => by
          obtain ⟨a5, l5, c5, lp, g1, g2, g3⟩ := h
          exact ⟨a5, l5, c5, lp, g1, hdr.trans g2, g3⟩)
      have hy0 : w.heap.size < wr.heap.size := by omega
      have hy1 : w.heap.size + 1 < wr.heap.size := by omega
      have hy2 : bk < wr.heap.size := by omega
      have hy3 : bk' < wr.heap.size := by omega
      have hx0 : w.heap.size < w.heap.size + 2 := by omega
      have hx1 : w.heap.size + 1 < w.heap.size + 2 := by omega
      have hx2 : bk < w.heap.size + 2 := by omega
      have hx3 : bk' < w.heap.size + 2 := by omega
      have HZF := hide hzf
      clear hkids hkids' hT hT' hu hv hzf hdr
      simp only [TV.val] at ihu
      go_wp2_with fail
      refine wp_region_noPanic ?_
      refine wp_region_held_drew (S := (fun w' => w'.cell? ⟨w.heap.size, 3, none⟩ = some (.slice (some ⟨bk, off, none⟩) len cap) ∧ w'.cell? ⟨w.heap.size + 1, 3, none⟩ = some (.slice (some ⟨bk', off', none⟩) len' cap') ∧ w'.cell? ⟨bk, off + j * 4, none⟩ = some (.int .i64 u.tv.k) ∧ w'.cell? ⟨bk, off + j * 4 + 1, none⟩ = some (.int .i64 u.tv.N) ∧ w'.cell? ⟨bk, off + j * 4 + 2, none⟩ = some (.string u.tv.s) ∧ w'.cell? ⟨bk, off + j * 4 + 3, none⟩ = some (.slice u.tv.a u.tv.len u.tv.cap) ∧ w'.cell? ⟨bk', off' + j * 4, none⟩ = some (.int .i64 v.tv.k) ∧ w'.cell? ⟨bk', off' + j * 4 + 1, none⟩ = some (.int .i64 v.tv.N) ∧ w'.cell? ⟨bk', off' + j * 4 + 2, none⟩ = some (.string v.tv.s) ∧ w'.cell? ⟨bk', off' + j * 4 + 3, none⟩ = some (.slice v.tv.a v.tv.len v.tv.cap))) (by kernel_rfl) ?_ (fun hHeld => ?_)
      · go_keep
      refine wpAnyH_take (i := 0) (oi := { dst := some 38, op := Op.move (Operand.tmp 5), type := 110, pos := "term.go:256", after := #[], guard := none }) (v := ?_) rfl (by kernel_rfl) (by kernel_rfl) (by kernel_rfl) (fun _ _ _ h => h) (Or.inl ⟨by rfl, ?_⟩) hHeld ?_
      rotate_left
      · (intro w' hSw; (try dsimp only at hSw); go_simp; try with_reducible rfl)
      try simp only [Act.put, List.setIfInBounds_toArray, List.set_cons_zero, List.set_cons_succ]
      refine wpAnyH_take (i := 1) (oi := { dst := some 39, op := Op.fieldAddr 24 (Operand.tmp 2) 3, type := 0, pos := "term.go:256", after := #[], guard := none }) (v := ?_) rfl (by kernel_rfl) (by kernel_rfl) (by kernel_rfl) (fun _ _ _ h => h) (Or.inl ⟨by rfl, ?_⟩) hHeld ?_
      rotate_left
      · (intro w' hSw; (try dsimp only at hSw); go_simp; try with_reducible rfl)
      try simp only [Act.put, List.setIfInBounds_toArray, List.set_cons_zero, List.set_cons_succ]
      refine wpAnyH_take (i := 2) (oi := { dst := some 40, op := Op.load 22 (Operand.tmp 39), type := 22, pos := "term.go:256", after := #[{ on := 1, ground := Ground.data }], guard := none }) (v := ?_) rfl (by kernel_rfl) (by kernel_rfl) (by kernel_rfl) (fun _ _ _ h => h) (Or.inl ⟨by rfl, ?_⟩) hHeld ?_
      rotate_left
      · (intro w' hSw; (try dsimp only at hSw); go_simp; try with_reducible rfl)
      try simp only [Act.put, List.setIfInBounds_toArray, List.set_cons_zero, List.set_cons_succ]
      refine wpAnyH_take (i := 3) (oi := { dst := some 41, op := Op.move (Operand.tmp 6), type := 3, pos := "term.go:256", after := #[], guard := none }) (v := ?_) rfl (by kernel_rfl) (by kernel_rfl) (by kernel_rfl) (fun _ _ _ h => h) (Or.inl ⟨by rfl, ?_⟩) hHeld ?_
      rotate_left
      · (intro w' hSw; (try dsimp only at hSw); go_simp; try with_reducible rfl)
      try simp only [Act.put, List.setIfInBounds_toArray, List.set_cons_zero, List.set_cons_succ]
      refine wpAnyH_take (i := 4) (oi := { dst := some 42, op := Op.indexAddr 22 (Operand.tmp 40) (Operand.tmp 41), type := 0, pos := "term.go:256", after := #[{ on := 2, ground := Ground.data }, { on := 3, ground := Ground.data }], guard := none }) (v := ?_) rfl (by kernel_rfl) (by kernel_rfl) (by kernel_rfl) (fun _ _ _ h => h) (Or.inl ⟨by rfl, ?_⟩) hHeld ?_
      rotate_left
      · (intro w' hSw; (try dsimp only at hSw); go_simp; try with_reducible rfl)
      try simp only [Act.put, List.setIfInBounds_toArray, List.set_cons_zero, List.set_cons_succ]
      refine wpAnyH_take (i := 5) (oi := { dst := some 43, op := Op.load 24 (Operand.tmp 42), type := 24, pos := "term.go:256", after := #[{ on := 4, ground := Ground.data }], guard := none }) (v := ?_) rfl (by kernel_rfl) (by kernel_rfl) (by kernel_rfl) (fun _ _ _ h => h) (Or.inl ⟨by rfl, ?_⟩) hHeld ?_
      rotate_left
      · (intro w' hSw; (try dsimp only at hSw); go_simp; try with_reducible rfl)
      try simp only [Act.put, List.setIfInBounds_toArray, List.set_cons_zero, List.set_cons_succ]
      refine wpAnyH_take (i := 6) (oi := { dst := some 44, op := Op.fieldAddr 24 (Operand.tmp 3) 3, type := 0, pos := "term.go:256", after := #[], guard := none }) (v := ?_) rfl (by kernel_rfl) (by kernel_rfl) (by kernel_rfl) (fun _ _ _ h => h) (Or.inl ⟨by rfl, ?_⟩) hHeld ?_
      rotate_left
      · (intro w' hSw; (try dsimp only at hSw); go_simp; try with_reducible rfl)
      try simp only [Act.put, List.setIfInBounds_toArray, List.set_cons_zero, List.set_cons_succ]
      refine wpAnyH_take (i := 7) (oi := { dst := some 45, op := Op.load 22 (Operand.tmp 44), type := 22, pos := "term.go:256", after := #[{ on := 6, ground := Ground.data }], guard := none }) (v := ?_) rfl (by kernel_rfl) (by kernel_rfl) (by kernel_rfl) (fun _ _ _ h => h) (Or.inl ⟨by rfl, ?_⟩) hHeld ?_
      rotate_left
      · (intro w' hSw; (try dsimp only at hSw); go_simp; try with_reducible rfl)
      try simp only [Act.put, List.setIfInBounds_toArray, List.set_cons_zero, List.set_cons_succ]
      refine wpAnyH_take (i := 8) (oi := { dst := some 46, op := Op.move (Operand.tmp 6), type := 3, pos := "term.go:256", after := #[], guard := none }) (v := ?_) rfl (by kernel_rfl) (by kernel_rfl) (by kernel_rfl) (fun _ _ _ h => h) (Or.inl ⟨by rfl, ?_⟩) hHeld ?_
      rotate_left
      · (intro w' hSw; (try dsimp only at hSw); go_simp; try with_reducible rfl)
      try simp only [Act.put, List.setIfInBounds_toArray, List.set_cons_zero, List.set_cons_succ]
      refine wpAnyH_take (i := 9) (oi := { dst := some 47, op := Op.indexAddr 22 (Operand.tmp 45) (Operand.tmp 46), type := 0, pos := "term.go:256", after := #[{ on := 7, ground := Ground.data }, { on := 8, ground := Ground.data }], guard := none }) (v := ?_) rfl (by kernel_rfl) (by kernel_rfl) (by kernel_rfl) (fun _ _ _ h => h) (Or.inl ⟨by rfl, ?_⟩) hHeld ?_
      rotate_left
      · (intro w' hSw; (try dsimp only at hSw); go_simp; try with_reducible rfl)
      try simp only [Act.put, List.setIfInBounds_toArray, List.set_cons_zero, List.set_cons_succ]
      refine wpAnyH_take (i := 10) (oi := { dst := some 48, op := Op.load 24 (Operand.tmp 47), type := 24, pos := "term.go:256", after := #[{ on := 9, ground := Ground.data }], guard := none }) (v := ?_) rfl (by kernel_rfl) (by kernel_rfl) (by kernel_rfl) (fun _ _ _ h => h) (Or.inl ⟨by rfl, ?_⟩) hHeld ?_
      rotate_left
      · (intro w' hSw; (try dsimp only at hSw); go_simp; try with_reducible rfl)
      try simp only [Act.put, List.setIfInBounds_toArray, List.set_cons_zero, List.set_cons_succ]
      refine wpAnyH_ready (rs := [11]) (by kernel_rfl) (by simp) ?_
      refine AllReadyH.cons (o := { dst := some 49, op := Op.call { callee := Callee.value (Operand.func 80), args := #[Operand.tmp 43, Operand.tmp 48], argTypes := #[24, 24] }, type := 110, pos := "term.go:256", after := #[{ on := 5, ground := Ground.data }, { on := 10, ground := Ground.data }], guard := none }) rfl (fun K hK => ?_) AllReadyH.nil
      have hHold := hHeld
      clear hHeld
      go_simp
      refine ihu.mono ?_
      clear ihu
      rintro e W5 ⟨a5, l5, c5, lp, rfl, hb5, hm5⟩
      have hbc := bcell hb5
      go_wp2_with fail
      refine hK.out _ _ ?_ (fun hHeld => ?_)
      · ((try dsimp only); go_keep)
      clear hK K hHold
      try simp only [Act.put, List.setIfInBounds_toArray, List.set_cons_zero, List.set_cons_succ]
      refine wpAnyH_ready (rs := [12]) (by kernel_rfl) (by simp) ?_
      refine AllReadyH.cons (o := { dst := some 50, op := Op.call { callee := Callee.builtin Builtin.append, args := #[Operand.tmp 38, Operand.tmp 49], argTypes := #[110, 110] }, type := 110, pos := "term.go:256", after := #[{ on := 0, ground := Ground.data }, { on := 11, ground := Ground.data }, { on := 11, ground := Ground.chain }], guard := none }) rfl (fun K hK => ?_) AllReadyH.nil
      have hHold := hHeld
      clear hHeld
      have hs5 := hb5.size
      have hm5l := hm5.len
      obtain ⟨u6, w6, hr6, hm6, hg6⟩ := ((unhide HM).below hb5 (by omega)).append hm5 110 (by omega) (by omega) (by omega)
      have hb6 : Below (w.heap.size + 2) W5 w6 := (Below.refl _ W5).grown hg6 (by omega) (fun g hg => (owns_lt (unhide HM).owns hg).1)
      have hbd : ∀ b o, b < w.heap.size + 2 → w6.cell? ⟨b, o, none⟩ = W5.cell? ⟨b, o, none⟩ := fun b o h => hb6.cell (p := ⟨b, o, none⟩) h
      obtain ⟨va6, vc6, rfl⟩ := hm6.slice
      rw [if_pos (by rfl)]
      refine wp_append_row _ _ _ rfl rfl rfl hr6 ?_
      refine hK.out _ _ ?_ (fun hHeld => ?_)
      · ((try dsimp only); go_keep)
      clear hK K hHold
      try simp only [Act.put, List.setIfInBounds_toArray, List.set_cons_zero, List.set_cons_succ]
      refine wpAnyH_take (i := 13) (oi := { dst := some 5, op := Op.assign (Operand.tmp 50), type := 110, pos := "term.go:256", after := #[{ on := 12, ground := Ground.data }, { on := 12, ground := Ground.chain }, { on := 0, ground := Ground.phase }, { on := 1, ground := Ground.phase }, { on := 2, ground := Ground.phase }, { on := 3, ground := Ground.phase }, { on := 4, ground := Ground.phase }, { on := 5, ground := Ground.phase }, { on := 6, ground := Ground.phase }, { on := 7, ground := Ground.phase }, { on := 8, ground := Ground.phase }, { on := 9, ground := Ground.phase }, { on := 10, ground := Ground.phase }, { on := 11, ground := Ground.phase }, { on := 12, ground := Ground.phase }], guard := none }) (v := ?_) rfl (by kernel_rfl) (by kernel_rfl) (by kernel_rfl) (fun _ _ _ h => h) (Or.inl ⟨by rfl, ?_⟩) hHeld ?_
      rotate_left
      · (intro w' hSw; (try dsimp only at hSw); go_simp; try with_reducible rfl)
      try simp only [Act.put, List.setIfInBounds_toArray, List.set_cons_zero, List.set_cons_succ]
      refine wpAnyH_done (by kernel_rfl) ?_ _
      refine NoPanic.normal ?_
      clear hbc hbd
      have hmf : MadeP n n₀ (w.heap.size + 2) w6 (.slice va6 (l ++ lp).length vc6) (l ++ lp) (zf prs (kids.take (j + 1)) (kids'.take (j + 1))) := by rw [unhide HZF]; exact hm6
      have hbf : Below (w.heap.size + 2) W1 w6 := (hb.trans (hb5.mono (by omega))).trans hb6
      have HMF := hide hmf
      clear hmf hm6 hm5 hg6 hr6 hb6
      go_wp2_with fail
      exact ⟨⟨j + 1, l ++ lp, by omega, by go_num, hbf, by have h := unhide HMF; rw [List.length_append] at h; exact h⟩, by simp [intOf]; omega⟩
    · have ht : kids.take j = kids := List.take_of_length_le (by omega)
      have ht' : kids'.take j = kids' := List.take_of_length_le (by omega)
      have hm := unhide HM
      rw [ht, ht'] at hm
      have hfin : MadeP n n₀ w.heap.size wr (.slice va l.length vc) l (zf prs kids kids') := by
        refine ⟨?_, hm.lim, hm.kids⟩
        obtain ⟨q1, q2⟩ := hm.owns
        refine ⟨q1, ?_⟩
        rcases q2 with q2 | ⟨g, cp, cur, e1, e2, e3⟩
        · exact .inl q2
        · exact .inr ⟨g, cp, cur, e1, by omega, e3⟩
      have HF := hide hfin
      clear ht ht' hm hfin hkids hkids'
      go_wp2_with fail
      exact bodyPost_ret (v := .slice va l.length vc) (by simp [results, Tryz.results80, go_sem]) rfl ⟨va, l.length, vc, l, rfl, hbw, unhide HF⟩

theorem MadeP.more {D D' n₀ base : Nat} {W : World} {v : Value} {l : List (TV × TV)} {c : List Pr} (h : MadeP D n₀ base W v l c) (hD : D ≤ D') (hD' : D' ≤ 2199023255552 := by omega) : MadeP D' n₀ base W v l c := ⟨h.owns, hD', fun M hM hlm => h.kids M (by omega) hlm⟩
theorem lift_to {n₀ : Nat} {W : World} {n : Nat} {t : Tm n} (hT : IsT n₀ W t) : ∀ M, n ≤ M → M ≤ 2199023255552 → ∃ t' : Tm M, t'.tv = t.tv ∧ IsT n₀ W t' ∧ code t' = code t := fun M hM hlm => by
  obtain ⟨k, rfl⟩ : ∃ k, M = n + k := ⟨M - n, by omega⟩
  clear hM
  induction k with
  | zero => exact ⟨t, rfl, hT, rfl⟩
  | succ k ih =>
    obtain ⟨t', h1, h2, h3⟩ := ih (by omega)
    exact ⟨t'.lift, by rw [lift_tv]; exact h1, lift_isT h2 (by omega), by rw [lift_code]; exact h3⟩
/-- One pair, in new memory. -/
theorem one_pair {n₀ n : Nat} {x y : Tm n} {w W : World} (hb : Below w.heap.size w W) (hx : IsT n₀ w x) (hy : IsT n₀ w y) (hn : n₀ ≤ w.heap.size) :
    UnSays n n₀ w [(code x, code y)] (.returned (.slice (some ⟨W.heap.size, 0, none⟩) 1 1)) (W.alloc (.cells #[.int .i64 x.tv.k, .int .i64 x.tv.N, .string x.tv.s, .slice x.tv.a x.tv.len x.tv.cap, .int .i64 y.tv.k, .int .i64 y.tv.N, .string y.tv.s, .slice y.tv.a y.tv.len y.tv.cap] 114)) := by
  have hB := hb.alloc hb.size (.cells #[.int .i64 x.tv.k, .int .i64 x.tv.N, .string x.tv.s, .slice x.tv.a x.tv.len x.tv.cap, .int .i64 y.tv.k, .int .i64 y.tv.N, .string y.tv.s, .slice y.tv.a y.tv.len y.tv.cap] 114)
  refine ⟨_, _, _, [(x.tv, y.tv)], rfl, hB, ⟨⟨by simp [pRow, TV.row], .inr ⟨W.heap.size, 1, _, rfl, hb.size, World.alloc_heap_new W _, by simp, by decide, rfl, by simp [pRow, TV.row]⟩⟩, hx.lim, fun M hM hlm => ?_⟩⟩
  obtain ⟨x', a1, a2, a3⟩ := lift_to hx M hM hlm
  obtain ⟨y', b1, b2, b3⟩ := lift_to hy M hM hlm
  exact ⟨[(x', y')], by simp [a1, b1], fun p hp => by simp at hp; subst hp; exact ⟨a2.below (hB.mono hn), b2.below (hB.mono hn)⟩, by simp [cpP, a3, b3]⟩

set_option maxRecDepth 100000 in
set_option maxHeartbeats 2000000 in
theorem unlike_any {n₀ : Nat} : ∀ (n : Nat) (x y : Tm n) (w : World), IsT n₀ w x → IsT n₀ w y → n₀ ≤ w.heap.size → okT x = true → okT y = true → (code x).length ≤ 4194304 → Calls Tryz.prog 80 #[x.tv.val, y.tv.val] w (UnSays n n₀ w (prs x y)) := by
  intro n
  induction n with
  | zero => intro x; exact Empty.elim x
  | succ n ih =>
    intro x y w hx hy hn ox oy hbig
    have hcx := code_kids x
    have hlx : (x.kids.flatMap code).length ≤ 4194304 := by rw [hcx] at hbig; simp only [List.length_cons] at hbig; omega
    have hpa := @prs_apart n x y
    have hpl := @prs_like n x y
    have hst := sameT_code (hx.wl) (hy.wl)
    obtain ⟨R, hR⟩ : ∃ R, prs x y = R := ⟨_, rfl⟩
    rw [hR] at hpa hpl ⊢
    clear hR hcx hbig
    have hB2 := fun (W : World) (hb : Below w.heap.size w W) => same_any (n + 1) x y W ((hx.mono hn |>.below hb).mono hb.size) ((hy.mono hn |>.below hb).mono hb.size)
    have HX := hide hx
    have HY := hide hy
    obtain ⟨⟨k, N, s, a, len, cap⟩, kids⟩ := x
    obtain ⟨⟨k', N', s', a', len', cap'⟩, kids'⟩ := y
    obtain ⟨hlen, ⟨hmax, _, hlimx⟩, hsm0, hkids⟩ := hx
    obtain ⟨hlen', ⟨hmax', _, _⟩, hsm0', hkids'⟩ := hy
    obtain ⟨wx, okx⟩ := ok_kids ox
    obtain ⟨wy, oky⟩ := ok_kids oy
    simp only [Tm.tv, Tm.kids] at hlen hmax hkids hlen' hmax' hkids' wx wy hpa hpl hlx
    by_cases hall : k = 4 ∧ k' = 4 ∧ s.toList = s'.toList ∧ len = len'
    · obtain ⟨rfl, rfl, hs, hl⟩ := hall
      have hN0 : N = 0 ∧ len ≤ 50 := by simp [wmB] at wx; omega
      have hN0' : N' = 0 := by simp [wmB] at wy; omega
      have hap : apart (⟨4, N, s, a, len, cap⟩ : TV) ⟨4, N', s', a', len', cap'⟩ = false := by simp [apart, stop, hs, hl, hN0.1, hN0']
      rw [hpl hap]
      refine (unlike_comp ih s s' a a' len cap len' cap' N N' kids kids' w hn hs hl hlen hlen' hN0.2 (by omega) hkids hkids' okx oky hlx).mono fun e W' h => ?_
      obtain ⟨a1, l1, c1, lp, g1, g2, g3⟩ := h
      exact ⟨a1, l1, c1, lp, g1, g2, g3.more (by omega)⟩
    · have hsamef : sameT (n := n + 1) ((⟨k, N, s, a, len, cap⟩, kids) : TV × List (Tm n)) ((⟨k', N', s', a', len', cap'⟩, kids') : TV × List (Tm n)) = false → k = k' → s.toList = s'.toList → len = len' → N = N' → k ≠ 4 → False := fun h e1 e2 e3 e4 e5 => by
        have h0 : len = 0 := by
          rcases wm_cases wx with ⟨_, _, _, _, h⟩ | ⟨_, h⟩ | ⟨h, _⟩
          · exact h
          · exact h
          · exact (e5 h).elim
        have k1 : kids = [] := List.length_eq_zero_iff.1 (by omega)
        have k2 : kids' = [] := List.length_eq_zero_iff.1 (by omega)
        simp [sameT, Tm.tv, Tm.kids, stop, e1, e2, e3, e4, k1, k2, all2] at h
      obtain ⟨W1, hW1, hB1, hba, hbb, hsz⟩ := two_new w ⟨k, N, s, a, len, cap⟩ ⟨k', N', s', a', len', cap'⟩
      have hsm := hB2 W1 hB1
      simp only at hW1
      have b0 := hba.c0
      have b1 := hba.c1
      have b2 := hba.c2
      have b3 := hba.c3
      have d0 := hbb.c0
      have d1 := hbb.c1
      have d2 := hbb.c2
      have d3 := hbb.c3
      simp only at b0 b1 b2 b3 d0 d1 d2 d3
      have hy0 : w.heap.size < W1.heap.size := hba.lt
      have hy1 : w.heap.size + 1 < W1.heap.size := hbb.lt
      have HB1 := hide hB1
      have HBA := hide hba
      have HBB := hide hbb
      simp only [TV.val, Tm.tv] at hsm ⊢
      by_cases hk4 : k = 4
      · have hd : sameT (n := n + 1) ((⟨k, N, s, a, len, cap⟩, kids) : TV × List (Tm n)) ((⟨k', N', s', a', len', cap'⟩, kids') : TV × List (Tm n)) = false := by
          cases h : sameT (n := n + 1) ((⟨k, N, s, a, len, cap⟩, kids) : TV × List (Tm n)) ((⟨k', N', s', a', len', cap'⟩, kids') : TV × List (Tm n)) with
          | false => rfl
          | true =>
            simp only [sameT, Tm.tv, Tm.kids, Bool.and_eq_true] at h
            have h1 := h.1
            simp [stop] at h1
            exact (hall ⟨hk4, h1.1 ▸ hk4, h1.2.2.1, h1.2.2.2⟩).elim
        rw [hd] at hsm
        have hap : apart (⟨k, N, s, a, len, cap⟩ : TV) ⟨k', N', s', a', len', cap'⟩ = true := by
          have : stop (⟨k, N, s, a, len, cap⟩ : TV) ⟨k', N', s', a', len', cap'⟩ = false := by
            cases h : stop (⟨k, N, s, a, len, cap⟩ : TV) ⟨k', N', s', a', len', cap'⟩ with
            | false => rfl
            | true =>
              simp [stop] at h
              exact (hall ⟨hk4, h.1 ▸ hk4, h.2.2.1, h.2.2.2⟩).elim
          simp [apart, this]
        rw [hpa hap]
        subst hk4
        by_cases hk4' : k' = 4
        · subst hk4'
          by_cases hs : s.toList = s'.toList
          · have hs' : (s.toList == s'.toList) = true := by simp [hs]
            have hl' : ((len : Int) == (len' : Int)) = false := by simp; exact fun e => hall ⟨rfl, rfl, hs, by omega⟩
            clear hkids hkids' wx wy ox oy okx oky hlen hlen' hpa hpl hst hsamef hap hd hB2 ih hall hs hba hbb hB1 hsz
            go_enter Tryz.func80, Tryz.ntmps80
            go_wp2_with fail
            refine hsm.mono ?_
            clear hsm
            rintro e W3 ⟨rfl, hb3⟩
            have hB3 : Below w.heap.size w W3 := (unhide HB1).trans (hb3.mono (unhide HB1).size)
            have hba3 := boxT_on (unhide HBA) hb3
            have hbb3 := boxT_on (unhide HBB) hb3
            have p0 := hba3.c0
            have p1 := hba3.c1
            have p2 := hba3.c2
            have p3 := hba3.c3
            have q0 := hbb3.c0
            have q1 := hbb3.c1
            have q2 := hbb3.c2
            have q3 := hbb3.c3
            simp only at p0 p1 p2 p3 q0 q1 q2 q3
            clear hba3 hbb3 hb3 hW1
            go_wp2_with fail
            exact bodyPost_ret (v := .slice (some ⟨W3.heap.size, 0, none⟩) 1 1) (by simp [results, Tryz.results80, go_sem]) rfl (one_pair hB3 (unhide HX) (unhide HY) hn)
          · have hs' : (s.toList == s'.toList) = false := by simp [hs]
            clear hkids hkids' wx wy ox oy okx oky hlen hlen' hpa hpl hst hsamef hap hd hB2 ih hall hs hba hbb hB1 hsz
            go_enter Tryz.func80, Tryz.ntmps80
            go_wp2_with fail
            refine hsm.mono ?_
            clear hsm
            rintro e W3 ⟨rfl, hb3⟩
            have hB3 : Below w.heap.size w W3 := (unhide HB1).trans (hb3.mono (unhide HB1).size)
            have hba3 := boxT_on (unhide HBA) hb3
            have hbb3 := boxT_on (unhide HBB) hb3
            have p0 := hba3.c0
            have p1 := hba3.c1
            have p2 := hba3.c2
            have p3 := hba3.c3
            have q0 := hbb3.c0
            have q1 := hbb3.c1
            have q2 := hbb3.c2
            have q3 := hbb3.c3
            simp only at p0 p1 p2 p3 q0 q1 q2 q3
            clear hba3 hbb3 hb3 hW1
            go_wp2_with fail
            exact bodyPost_ret (v := .slice (some ⟨W3.heap.size, 0, none⟩) 1 1) (by simp [results, Tryz.results80, go_sem]) rfl (one_pair hB3 (unhide HX) (unhide HY) hn)
        · have hk4b : (k' == 4) = false := by simp [hk4']
          clear hkids hkids' wx wy ox oy okx oky hlen hlen' hpa hpl hst hsamef hap hd hB2 ih hall hk4' hba hbb hB1 hsz
          go_enter Tryz.func80, Tryz.ntmps80
          go_wp2_with fail
          refine hsm.mono ?_
          clear hsm
          rintro e W3 ⟨rfl, hb3⟩
          have hB3 : Below w.heap.size w W3 := (unhide HB1).trans (hb3.mono (unhide HB1).size)
          have hba3 := boxT_on (unhide HBA) hb3
          have hbb3 := boxT_on (unhide HBB) hb3
          have p0 := hba3.c0
          have p1 := hba3.c1
          have p2 := hba3.c2
          have p3 := hba3.c3
          have q0 := hbb3.c0
          have q1 := hbb3.c1
          have q2 := hbb3.c2
          have q3 := hbb3.c3
          simp only at p0 p1 p2 p3 q0 q1 q2 q3
          clear hba3 hbb3 hb3 hW1
          go_wp2_with fail
          exact bodyPost_ret (v := .slice (some ⟨W3.heap.size, 0, none⟩) 1 1) (by simp [results, Tryz.results80, go_sem]) rfl (one_pair hB3 (unhide HX) (unhide HY) hn)
      · have hk4b : (k == 4) = false := by simp [hk4]
        by_cases hk1 : k = 1
        · have hap : apart (⟨k, N, s, a, len, cap⟩ : TV) ⟨k', N', s', a', len', cap'⟩ = true := by simp [apart, hk1]
          rw [hpa hap]
          have hk1b : (k != 1) = false := by simp [hk1]
          clear hkids hkids' wx wy ox oy okx oky hlen hlen' hpa hpl hst hsamef hap hB2 ih hall hk4 hk1 hba hbb hB1 hsz hsm
          go_enter Tryz.func80, Tryz.ntmps80
          go_wp2_with fail
          exact bodyPost_ret (v := .slice (some ⟨W1.heap.size, 0, none⟩) 1 1) (by simp [results, Tryz.results80, go_sem]) rfl (one_pair (unhide HB1) (unhide HX) (unhide HY) hn)
        · have hk1b : (k != 1) = true := by simp [hk1]
          cases hd : sameT (n := n + 1) ((⟨k, N, s, a, len, cap⟩, kids) : TV × List (Tm n)) ((⟨k', N', s', a', len', cap'⟩, kids') : TV × List (Tm n)) with
          | true =>
            rw [hd] at hsm
            have hstp : stop (⟨k, N, s, a, len, cap⟩ : TV) ⟨k', N', s', a', len', cap'⟩ = true := by
              simp only [sameT, Tm.tv, Tm.kids, Bool.and_eq_true] at hd
              exact hd.1
            have hap : apart (⟨k, N, s, a, len, cap⟩ : TV) ⟨k', N', s', a', len', cap'⟩ = false := by simp [apart, hk1, hstp]
            have h0 : len = 0 := by
              rcases wm_cases wx with ⟨h, _⟩ | ⟨_, h⟩ | ⟨h, _⟩
              · exact (hk1 h).elim
              · exact h
              · exact (hk4 h).elim
            have k1 : kids = [] := List.length_eq_zero_iff.1 (by omega)
            have hR0 : R = [] := by rw [hpl hap, k1]; simp [zf]
            subst hR0
            clear hkids hkids' wx wy ox oy okx oky hlen hlen' hpa hpl hst hsamef hap hd hstp h0 k1 hB2 ih hall hk4 hk1 hba hbb hB1 hsz
            go_enter Tryz.func80, Tryz.ntmps80
            go_wp2_with fail
            refine hsm.mono ?_
            clear hsm
            rintro e W3 ⟨rfl, hb3⟩
            have hB3 : Below w.heap.size w W3 := (unhide HB1).trans (hb3.mono (unhide HB1).size)
            have hba3 := boxT_on (unhide HBA) hb3
            have hbb3 := boxT_on (unhide HBB) hb3
            have p0 := hba3.c0
            have p1 := hba3.c1
            have p2 := hba3.c2
            have p3 := hba3.c3
            have q0 := hbb3.c0
            have q1 := hbb3.c1
            have q2 := hbb3.c2
            have q3 := hbb3.c3
            simp only at p0 p1 p2 p3 q0 q1 q2 q3
            clear hba3 hbb3 hb3 hW1
            go_wp2_with fail
            exact bodyPost_ret (v := .slice none 0 0) (by simp [results, Tryz.results80, go_sem]) rfl ⟨none, 0, 0, [], rfl, hB3, MadeP.zero _ _ _ _⟩
          | false =>
            rw [hd] at hsm
            have hap : apart (⟨k, N, s, a, len, cap⟩ : TV) ⟨k', N', s', a', len', cap'⟩ = true := by
              have : stop (⟨k, N, s, a, len, cap⟩ : TV) ⟨k', N', s', a', len', cap'⟩ = false := by
                cases h : stop (⟨k, N, s, a, len, cap⟩ : TV) ⟨k', N', s', a', len', cap'⟩ with
                | false => rfl
                | true =>
                  simp [stop] at h
                  exact (hsamef hd h.1 h.2.2.1 h.2.2.2 h.2.1 hk4).elim
              simp [apart, this]
            rw [hpa hap]
            clear hkids hkids' wx wy ox oy okx oky hlen hlen' hpa hpl hst hsamef hap hd hB2 ih hall hk4 hk1 hba hbb hB1 hsz
            go_enter Tryz.func80, Tryz.ntmps80
            go_wp2_with fail
            refine hsm.mono ?_
            clear hsm
            rintro e W3 ⟨rfl, hb3⟩
            have hB3 : Below w.heap.size w W3 := (unhide HB1).trans (hb3.mono (unhide HB1).size)
            have hba3 := boxT_on (unhide HBA) hb3
            have hbb3 := boxT_on (unhide HBB) hb3
            have p0 := hba3.c0
            have p1 := hba3.c1
            have p2 := hba3.c2
            have p3 := hba3.c3
            have q0 := hbb3.c0
            have q1 := hbb3.c1
            have q2 := hbb3.c2
            have q3 := hbb3.c3
            simp only at p0 p1 p2 p3 q0 q1 q2 q3
            clear hba3 hbb3 hb3 hW1
            go_wp2_with fail
            exact bodyPost_ret (v := .slice (some ⟨W3.heap.size, 0, none⟩) 1 1) (by simp [results, Tryz.results80, go_sem]) rfl (one_pair hB3 (unhide HX) (unhide HY) hn)
end Go.Proofs.YtojefplapklbmaaGreatDoor

