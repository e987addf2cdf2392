import Derived.Test.YtffbhinpmlcopabArYc
import Derived.Test.YtffbhinpmlcopabArV
import Derived.Test.YtffbhinpmlcopabG
import Derived.Deep.RegionHeld3
import Derived.Deep.Cut
/- hornkeep.thereArith. -/
namespace Go.Proofs.Ytffbhinpmlcopab
open Go.RowKit Go.Shelf

/-- An integer as a term of one storey; one and one. -/
def oneK : Tm 1 := ((intV 1, []) : TV × List (Tm 0))
def twoK (b : Nat) : Tm 2 := ((compV ⟨#[43]⟩ (some ⟨b, 0, none⟩) 2 2, [oneK, oneK]) : TV × List (Tm 1))
theorem plus_op : opOf (⟨#[43]⟩ : ByteArray).toList 2 = some fun a b => fit (a + b) := by
  rw [show (⟨#[43]⟩ : ByteArray).toList = [43] by decide +kernel]
  unfold opOf
  rw [if_neg (by decide), if_pos rfl]
  unfold twoOp
  rw [if_pos (by decide)]
theorem one_ev : evT oneK = .ok 1 := by
  unfold oneK
  rw [evT_succ]
  unfold nodeR
  exact if_pos rfl
theorem two_ev (b : Nat) : evT (n := 1 + 1) ((compV ⟨#[43]⟩ (some ⟨b, 0, none⟩) 2 2, [oneK, oneK]) : TV × List (Tm 1)) = .ok 2 := by
  rw [evT_comp rfl]
  unfold compR
  have h : opOf (compV ⟨#[43]⟩ (some ⟨b, 0, none⟩) 2 2).s.toList (compV ⟨#[43]⟩ (some ⟨b, 0, none⟩) 2 2).len = some fun a b => fit (a + b) := plus_op
  rw [h]
  simp only [evL, one_ev]
  show thrown (fit ((1 : Int) + 1)) = .ok 2
  rw [fit_ok (by unfold inR; omega)]
  rfl
theorem two_folds (b : Nat) : foldC (twoK b) = intC 2 := by
  unfold twoK
  rw [foldC_comp rfl, two_ev]
  rfl

set_option maxRecDepth 100000 in
set_option maxHeartbeats 2000000 in
theorem there_any (w : World) : Calls Try.prog 17 #[] w fun e W' => e = .returned (.bool true) ∧ Below w.heap.size w W' := by
  have hi := rinteger_any
  have hc := rcompound_any
  have HIN : Hid (∀ w : World, Calls Try.prog 32 #[.int .i64 2] w fun e W' => e = .returned (intV 2).val ∧ Below w.heap.size w W') := fun w => rinteger_any 2 w
  simp only [intV, compV, TV.val] at hi hc HIN
  go_enter Try.func17, Try.ntmps17
  go_wp2_with fail
  refine (hi _ _).mono ?_
  rintro e W1 ⟨rfl, hb1⟩
  go_wp2_with fail
  refine (hi _ _).mono ?_
  rintro e W2 ⟨rfl, hb2⟩
  go_wp2_with fail
  refine (hc _ _ _ _ _).mono ?_
  rintro e W3 ⟨rfl, hb3⟩
  clear hi hc
  have s1 := hb1.size
  have s2 := hb2.size
  have s3 := hb3.size
  simp only [World.size_alloc] at s3
  have hblk : W3.heap[W2.heap.size]? = some (.cells #[.int .i64 2, .int .i64 1, .string ⟨#[]⟩, .slice none 0 0, .int .i64 2, .int .i64 1, .string ⟨#[]⟩, .slice none 0 0] 24 (0, 0)) := (hb3.block _ (by simp)).trans (World.alloc_heap_new _ _)
  have hB3 : Below w.heap.size w W3 := ((hb1.trans (hb2.mono (by omega))).trans (((Below.refl _ W2).alloc (Nat.le_refl _) _).mono (by omega))).trans (hb3.mono (by simp; omega))
  have hT : IsT W3.heap.size W3 (twoK W2.heap.size) := by
    have he : (⟨#[]⟩ : ByteArray).size ≤ 9223372036854775807 := by show (0 : Nat) ≤ _; omega
    refine ⟨rfl, by simp [twoK, Tm.tv, compV], by show (1 : Nat) ≤ _; omega, .inr ⟨W2.heap.size, 0, rfl, by omega, fun j v hv => ?_⟩⟩
    match j, hv with
    | 0, hv =>
      obtain rfl := Option.some.inj (show some oneK = some v from hv)
      exact ⟨by refine ⟨?_, ?_, ?_, ?_⟩ <;> simp [World.cell?, hblk, Tm.tv, oneK, intV], rfl, by simp [Tm.tv, oneK, intV], he, .inl rfl⟩
    | 1, hv =>
      obtain rfl := Option.some.inj (show some oneK = some v from hv)
      exact ⟨by refine ⟨?_, ?_, ?_, ?_⟩ <;> simp [World.cell?, hblk, Tm.tv, oneK, intV], rfl, by simp [Tm.tv, oneK, intV], he, .inl rfl⟩
    | k + 2, hv => cases (show none = some v from hv)
  have hp : parts (twoK W2.heap.size) = [compV ⟨#[43]⟩ (some ⟨W2.heap.size, 0, none⟩) 2 2, intV 1, intV 1] := rfl
  have hok : okT (twoK W2.heap.size) = true := by
    unfold okT
    rw [hp]
    simp only [List.all_cons, List.all_nil, Bool.and_true, leaf_ok]
    simp [TV.ok, wmB, compV, ByteArray.size]
  have hnum : numsT (twoK W2.heap.size) := by
    intro x hx
    rw [hp] at hx
    simp only [List.mem_cons, List.not_mem_nil, or_false] at hx
    rcases hx with rfl | rfl | rfl
    · simp [compV, inR]
    · simp [intV, inR]
    · simp [intV, inR]
  have hF := afold_ok (twoK W2.heap.size) W3 hT hok hnum
  rw [two_folds] at hF
  simp only [twoK, Tm.tv, compV, TV.val] at hF
  clear hT hok hnum hp hblk hb1 hb2 hb3
  go_wp2_with fail
  refine hF.mono ?_
  rintro e W4 ⟨f, rfl, hb4, hf⟩
  clear hF
  have s4 := hb4.size
  obtain ⟨W5, hW5, hb5, s5, bFW5⟩ : ∃ W5, W4.alloc (.cells #[.int .i64 f.k, .int .i64 f.N, .string f.s, .slice f.a f.len f.cap] 24) = W5 ∧ Below W4.heap.size W4 W5 ∧ W5.heap.size = W4.heap.size + 1 ∧ BoxT W5 W4.heap.size f := ⟨_, rfl, (Below.refl _ _).alloc (Nat.le_refl _) _, by simp, BoxT.new W4 f⟩
  have hfW5 := hf.below hb5
  have hB5 : Below w.heap.size w W5 := (hB3.trans (hb4.mono (by omega))).trans (hb5.mono (by omega))
  have HF5 := hide bFW5
  clear bFW5 hf
  go_upto_region 2 with fail
  try rw [hW5]
  clear hW5
  have bFW5 := unhide HF5
  have KEEP : W5.cell? ⟨W4.heap.size, 0, none⟩ = some (.int .i64 f.k) ∧ W5.cell? ⟨W4.heap.size, 1, none⟩ = some (.int .i64 f.N) ∧ W5.cell? ⟨W4.heap.size, 2, none⟩ = some (.string f.s) ∧ W5.cell? ⟨W4.heap.size, 3, none⟩ = some (.slice f.a f.len f.cap) := ⟨bFW5.c0, bFW5.c1, bFW5.c2, bFW5.c3⟩
  refine wp_region_noPanic ?_
  refine wp_region_held_drew (S := (fun w' => w'.cell? ⟨W4.heap.size, 0, none⟩ = some (.int .i64 f.k) ∧ w'.cell? ⟨W4.heap.size, 1, none⟩ = some (.int .i64 f.N) ∧ w'.cell? ⟨W4.heap.size, 2, none⟩ = some (.string f.s) ∧ w'.cell? ⟨W4.heap.size, 3, none⟩ = some (.slice f.a f.len f.cap))) (by kernel_rfl) ?_ (fun hHeld => ?_)
  · exact KEEP
  refine wpAnyH_take (i := 0) (oi := { dst := some 11, op := Op.move (Operand.tmp 2), type := 25, pos := "there.go:44", after := #[], guard := none }) (v := ?_) rfl (by kernel_rfl) (by kernel_rfl) (by kernel_rfl) (fun _ _ _ h => h) (Or.inl ⟨by rfl, ?_⟩) hHeld ?_
  rotate_left
  · (intro w' hSw; (try dsimp only at hSw); go_simp; try with_reducible rfl)
  try simp only [Act.put, List.setIfInBounds_toArray, List.set_cons_zero, List.set_cons_succ]
  refine wpAnyH_take (i := 1) (oi := { dst := some 12, op := Op.binOp BinOp.eql 25 (Operand.tmp 11) (Operand.const (Value.int IntKind.i64 0)) 25, type := 4, pos := "there.go:44", after := #[{ on := 0, ground := Ground.data }], guard := none }) (v := ?_) rfl (by kernel_rfl) (by kernel_rfl) (by kernel_rfl) (fun _ _ _ h => h) (Or.inl ⟨by rfl, ?_⟩) hHeld ?_
  rotate_left
  · (intro w' hSw; (try dsimp only at hSw); go_simp; try with_reducible rfl)
  try simp only [Act.put, List.setIfInBounds_toArray, List.set_cons_zero, List.set_cons_succ]
  refine wpAnyH_take (i := 2) (oi := { dst := some 13, op := Op.move (Operand.tmp 12), type := 4, pos := "there.go:44", after := #[{ on := 1, ground := Ground.data }], guard := none }) (v := ?_) rfl (by kernel_rfl) (by kernel_rfl) (by kernel_rfl) (fun _ _ _ h => h) (Or.inl ⟨by rfl, ?_⟩) hHeld ?_
  rotate_left
  · (intro w' hSw; (try dsimp only at hSw); go_simp; try with_reducible rfl)
  try simp only [Act.put, List.setIfInBounds_toArray, List.set_cons_zero, List.set_cons_succ]
  refine wpAnyH_take (i := 3) (oi := { dst := some 14, op := Op.load 24 (Operand.tmp 1), type := 24, pos := "there.go:44", after := #[{ on := 2, ground := Ground.guard }], guard := some (2, true) }) (v := ?_) rfl (by kernel_rfl) (by kernel_rfl) (by kernel_rfl) (fun _ _ _ h => h) (Or.inl ⟨by rfl, ?_⟩) hHeld ?_
  rotate_left
  · (intro w' hSw; (try dsimp only at hSw); go_simp; try with_reducible rfl)
  try simp only [Act.put, List.setIfInBounds_toArray, List.set_cons_zero, List.set_cons_succ]
  refine wpAnyH_ready (rs := [4]) (by kernel_rfl) (by simp) ?_
  refine AllReadyH.cons (o := { dst := some 15, op := Op.call { callee := Callee.value (Operand.func 32), args := #[Operand.const (Value.int IntKind.i64 2)], argTypes := #[2] }, type := 24, pos := "there.go:44", after := #[{ on := 2, ground := Ground.chain }, { on := 2, ground := Ground.guard }], guard := some (2, true) }) rfl (fun K hK => ?_) AllReadyH.nil
  have hHold := hHeld
  clear hHeld
  go_simp
  refine (HIN.out _).mono ?_
  rintro e W6 ⟨rfl, hbW6⟩
  have gW6 : Below W5.heap.size W5 W6 := (Below.refl _ W5).drew.trans hbW6
  have sW6 := gW6.size
  have hS : Calls Try.prog 12 #[f.val, (intV 2).val] W6 fun e W' => e = .returned (.bool (decide (intC 2 = intC 2))) ∧ Below W6.heap.size W6 W' := same_holds (hfW5.below gW6) (int_holds 2 0 W6)
  simp only [decide_true, intV, TV.val] at hS
  have bFW6 := bFW5.below gW6 (by omega)
  have KEEP : W6.cell? ⟨W4.heap.size, 0, none⟩ = some (.int .i64 f.k) ∧ W6.cell? ⟨W4.heap.size, 1, none⟩ = some (.int .i64 f.N) ∧ W6.cell? ⟨W4.heap.size, 2, none⟩ = some (.string f.s) ∧ W6.cell? ⟨W4.heap.size, 3, none⟩ = some (.slice f.a f.len f.cap) := ⟨bFW6.c0, bFW6.c1, bFW6.c2, bFW6.c3⟩
  go_wp2_with fail
  refine hK.out _ _ ?_ (fun hHeld => ?_)
  · ((try dsimp only); exact KEEP)
  clear hK K hHold
  try simp only [Act.put, List.setIfInBounds_toArray, List.set_cons_zero, List.set_cons_succ]
  refine wpAnyH_ready (rs := [5]) (by kernel_rfl) (by simp) ?_
  refine AllReadyH.cons (o := { dst := some 16, op := Op.call { callee := Callee.value (Operand.func 12), args := #[Operand.tmp 14, Operand.tmp 15], argTypes := #[24, 24] }, type := 4, pos := "there.go:44", after := #[{ on := 3, ground := Ground.data }, { on := 4, ground := Ground.data }, { on := 4, ground := Ground.chain }, { on := 2, ground := Ground.guard }], guard := some (2, true) }) rfl (fun K hK => ?_) AllReadyH.nil
  have hHold := hHeld
  clear hHeld
  go_simp
  refine (hS).mono ?_
  rintro e W7 ⟨rfl, hbW7⟩
  have gW7 := hbW7
  have sW7 := gW7.size
  have bFW7 := bFW6.below gW7 (by omega)
  have KEEP : W7.cell? ⟨W4.heap.size, 0, none⟩ = some (.int .i64 f.k) ∧ W7.cell? ⟨W4.heap.size, 1, none⟩ = some (.int .i64 f.N) ∧ W7.cell? ⟨W4.heap.size, 2, none⟩ = some (.string f.s) ∧ W7.cell? ⟨W4.heap.size, 3, none⟩ = some (.slice f.a f.len f.cap) := ⟨bFW7.c0, bFW7.c1, bFW7.c2, bFW7.c3⟩
  go_wp2_with fail
  refine hK.out _ _ ?_ (fun hHeld => ?_)
  · ((try dsimp only); exact KEEP)
  clear hK K hHold
  try simp only [Act.put, List.setIfInBounds_toArray, List.set_cons_zero, List.set_cons_succ]
  refine wpAnyH_take (i := 6) (oi := { dst := some 17, op := Op.pick (Operand.tmp 13) (Operand.tmp 16) (Operand.const (Value.bool false)), type := 4, pos := "there.go:44", after := #[{ on := 2, ground := Ground.data }, { on := 5, ground := Ground.data }], guard := none }) (v := ?_) rfl (by kernel_rfl) (by kernel_rfl) (by kernel_rfl) (fun _ _ _ h => h) (Or.inl ⟨by rfl, ?_⟩) hHeld ?_
  rotate_left
  · (intro w' hSw; (try dsimp only at hSw); go_simp; try with_reducible rfl)
  try simp only [Act.put, List.setIfInBounds_toArray, List.set_cons_zero, List.set_cons_succ]
  refine wpAnyH_take (i := 7) (oi := { dst := some 0, op := Op.assign (Operand.tmp 17), type := 4, pos := "there.go:44", after := #[{ on := 6, ground := Ground.data }, { on := 5, ground := Ground.chain }, { on := 0, ground := Ground.phase }, { on := 1, ground := Ground.phase }, { on := 2, ground := Ground.phase }, { on := 3, ground := Ground.phase }, { on := 4, ground := Ground.phase }, { on := 5, ground := Ground.phase }, { on := 6, ground := Ground.phase }], guard := none }) (v := ?_) rfl (by kernel_rfl) (by kernel_rfl) (by kernel_rfl) (fun _ _ _ h => h) (Or.inl ⟨by rfl, ?_⟩) hHeld ?_
  rotate_left
  · (intro w' hSw; (try dsimp only at hSw); go_simp; try with_reducible rfl)
  try simp only [Act.put, List.setIfInBounds_toArray, List.set_cons_zero]
  refine wpAnyH_done (by kernel_rfl) ?_ _
  refine NoPanic.normal ?_
  clear hHeld KEEP
  have HB : Hid (Below w.heap.size w W7) := (hB5.trans (gW6.mono (by omega))).trans (gW7.mono (by omega))
  clear bFW5 bFW6 bFW7 hS gW6 gW7 hbW6 hbW7 hfW5
  go_wp2_with fail
  all_goals go_ret
  all_goals exact ⟨rfl, HB.out⟩
end Go.Proofs.Ytffbhinpmlcopab

