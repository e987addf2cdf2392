import Derived.Test.YtffbhinpmlcopabArYc
import Derived.Test.YtffbhinpmlcopabArYd
import Derived.Test.YtffbhinpmlcopabArV
import Derived.Deep.RegionHeld3
import Derived.Deep.Cut
/- The law ArithSays. -/
namespace Go.Proofs.Ytffbhinpmlcopab
open Go.RowKit Go.Shelf

set_option maxHeartbeats 1000000 in
theorem none_no (w : World) : Calls Try.prog 11 #[noTerm.val] w fun e W' => e = .returned (.bool true) ∧ Below w.heap.size w W' := by
  simp only [noTerm, TV.val]
  go_enter Try.func11, Try.ntmps11
  go_wp2
  all_goals go_ret
  all_goals exact ⟨rfl, (Below.refl _ _).alloc (Nat.le_refl _) _⟩
theorem none_q (q : TV) (h : q = noTerm) (w : World) : Calls Try.prog 11 #[q.val] w fun e W' => e = .returned (.bool true) ∧ Below w.heap.size w W' := by rw [h]; exact none_no w
theorem eval_q {n : Nat} (t : Tm n) (W : World) (hT : IsT W.heap.size W t) (hok : okT t = true) (hnum : numsT t) (m : Int) (hev : evT t = .ok m) :
    Calls Try.prog 8 #[t.tv.val] W fun e W' => ∃ q : TV, e = .returned (.tuple #[.int .i64 m, q.val, .int .i64 0]) ∧ q = noTerm ∧ Below W.heap.size W W' := by
  have h := eval_ok t W hT hok hnum
  rw [hev] at h
  exact h.mono fun e W' k => ⟨noTerm, k.1, rfl, k.2⟩
theorem eval_e {n : Nat} (t : Tm n) (W : World) (hT : IsT W.heap.size W t) (hok : okT t = true) (hnum : numsT t) (c : List Nd) (hev : evT t = .error c) :
    Calls Try.prog 8 #[t.tv.val] W fun e W' => ∃ q : TV, e = .returned (.tuple #[.int .i64 0, q.val, .int .i64 14]) ∧ HoldsT 3 W.heap.size W' q.val c ∧ Below W.heap.size W W' := by
  have h := eval_ok t W hT hok hnum
  rw [hev] at h
  exact h.mono fun e W' k => by
    obtain ⟨⟨x, h1, h2⟩, h3⟩ := k
    exact ⟨x, h1, h2, h3⟩

set_option maxRecDepth 100000 in
set_option maxHeartbeats 4000000 in
theorem says_ok {n : Nat} (t : Tm n) (W : World) (hT : IsT W.heap.size W t) (hok : okT t = true) (hnum : numsT t) (m : Int) (hev : evT t = .ok m) (hn40 : n ≤ 1048576) :
    Calls Try.prog 3 #[t.tv.val] W fun e W' => e = .returned (.bool true) ∧ Below W.heap.size W W' := by
  obtain ⟨W1, hW1, hb1, hs1, bT⟩ := box_one W t.tv
  have hE := eval_q t W1 ((hT.below hb1).mono (by omega)) hok hnum m hev
  have HFO : Hid (∀ V, Below W.heap.size W V → _) := fun V (hb : Below W.heap.size W V) => afold_ok t V ((hT.below hb).mono hb.size) hok hnum
  have HFM : Hid (∀ V, Below W.heap.size W V → Calls Try.prog 10 #[t.tv.val] V fun e W' => e = .returned (.bool true) ∧ Below V.heap.size V W') := fun V (hb : Below W.heap.size W V) => by have h := formed_any _ t V ((hT.below hb).mono hb.size); rw [hok] at h; exact h
  have HRF : Hid (∀ V, Below W.heap.size W V → _) := fun V (hb : Below W.heap.size W V) => rfold_any t V ((hT.below hb).mono hb.size) hok hnum
  have HRE : Hid (∀ V, Below W.heap.size W V → _) := fun V (hb : Below W.heap.size W V) => reval_any t V ((hT.below hb).mono hb.size) hok hnum
  rw [hev] at HRE
  simp only [TV.val] at hE HFO HFM HRF HRE ⊢
  have HEV : Hid _ := hev
  clear hT hok hnum hev
  have c0 := bT.c0
  have c1 := bT.c1
  have c2 := bT.c2
  have c3 := bT.c3
  go_enter Try.func3, Try.ntmps3
  go_wp2_with fail
  refine hE.mono ?_
  rintro e W2 ⟨q, rfl, hq, hb2⟩
  have HHQ : Hid (q = noTerm) := hq
  clear hq
  try rw [hW1] at hb2
  clear hE hW1 c0 c1 c2 c3
  have s2 := hb2.size
  obtain ⟨W3, hW3, hb3, s3, bQW3⟩ : ∃ W3, W2.alloc (.cells #[.int .i64 q.k, .int .i64 q.N, .string q.s, .slice q.a q.len q.cap] 24) = W3 ∧ Below W2.heap.size W2 W3 ∧ W3.heap.size = W2.heap.size + 1 ∧ BoxT W3 W2.heap.size q := ⟨_, rfl, (Below.refl _ _).alloc (Nat.le_refl _) _, by simp, BoxT.new W2 q⟩
  have hBW3 : Below W.heap.size W W3 := (hb1.trans (hb2.mono (by omega))).trans (hb3.mono (by omega))
  have bTW3 := (bT.below hb2 (by omega)).below hb3 (by omega)
  have hF := HFO.out W3 hBW3
  have c0 := bTW3.c0
  have c1 := bTW3.c1
  have c2 := bTW3.c2
  have c3 := bTW3.c3
  have HQ3 := hide bQW3
  have HT3 := hide bTW3
  clear bQW3 bTW3 bT
  go_wp2_with fail
  try rw [hW3]
  refine hF.mono ?_
  rintro e W4 ⟨f, rfl, hb4, hf⟩
  clear hF hW3 c0 c1 c2 c3
  have s4 := hb4.size
  obtain ⟨W5, hW5, hb5, s5, bFW5⟩ : ∃ W5, W4.alloc (.cells #[.int .i64 f.k, .int .i64 f.N, .string f.s, .slice f.a f.len f.cap] 24) = W5 ∧ Below W4.heap.size W4 W5 ∧ W5.heap.size = W4.heap.size + 1 ∧ BoxT W5 W4.heap.size f := ⟨_, rfl, (Below.refl _ _).alloc (Nat.le_refl _) _, by simp, BoxT.new W4 f⟩
  have hBW5 : Below W.heap.size W W5 := (hBW3.trans (hb4.mono (by omega))).trans (hb5.mono (by omega))
  have bTW5 := ((unhide HT3).below hb4 (by omega)).below hb5 (by omega)
  have bQW5 := ((unhide HQ3).below hb4 (by omega)).below hb5 (by omega)
  have hFm := HFM.out W5 hBW5
  have hf5 := hf.below hb5
  have c0 := bTW5.c0
  have c1 := bTW5.c1
  have c2 := bTW5.c2
  have c3 := bTW5.c3
  have HF5 := hide bFW5
  have HT5 := hide bTW5
  have HQ5 := hide bQW5
  clear bFW5 bTW5 bQW5 HQ3 HT3 hf hb4
  go_wp2_with fail
  try rw [hW5]
  refine hFm.mono ?_
  rintro e W6 ⟨rfl, hb6⟩
  clear hFm hW5 c0 c1 c2 c3
  have s6 := hb6.size
  have hBW6 : Below W.heap.size W W6 := hBW5.trans (hb6.mono (by omega))
  have bTW6 := (unhide HT5).below hb6 (by omega)
  have bQW6 := (unhide HQ5).below hb6 (by omega)
  have bFW6 := (unhide HF5).below hb6 (by omega)
  have hfW6 := hf5.below hb6
  clear HT5 HQ5 HF5 hf5
  have HTV6 := hide bTW6
  go_upto_region 5 with fail
  have KEEP : W6.cell? ⟨W4.heap.size, 0, none⟩ = some (.int .i64 f.k) ∧ W6.cell? ⟨W4.heap.size, 1, none⟩ = some (.int .i64 f.N) ∧ W6.cell? ⟨W4.heap.size, 2, none⟩ = some (.string f.s) ∧ W6.cell? ⟨W4.heap.size, 3, none⟩ = some (.slice f.a f.len f.cap) ∧ W6.cell? ⟨W.heap.size, 0, none⟩ = some (.int .i64 t.tv.k) ∧ W6.cell? ⟨W.heap.size, 1, none⟩ = some (.int .i64 t.tv.N) ∧ W6.cell? ⟨W.heap.size, 2, none⟩ = some (.string t.tv.s) ∧ W6.cell? ⟨W.heap.size, 3, none⟩ = some (.slice t.tv.a t.tv.len t.tv.cap) := ⟨bFW6.c0, bFW6.c1, bFW6.c2, bFW6.c3, bTW6.c0, bTW6.c1, bTW6.c2, bTW6.c3⟩
  refine wp_region_noPanic ?_
  refine wp_region_held_drew (S := (fun w' => w'.cell? ⟨W4.heap.size, 0, none⟩ = some (.int .i64 f.k) ∧ w'.cell? ⟨W4.heap.size, 1, none⟩ = some (.int .i64 f.N) ∧ w'.cell? ⟨W4.heap.size, 2, none⟩ = some (.string f.s) ∧ w'.cell? ⟨W4.heap.size, 3, none⟩ = some (.slice f.a f.len f.cap) ∧ w'.cell? ⟨W.heap.size, 0, none⟩ = some (.int .i64 t.tv.k) ∧ w'.cell? ⟨W.heap.size, 1, none⟩ = some (.int .i64 t.tv.N) ∧ w'.cell? ⟨W.heap.size, 2, none⟩ = some (.string t.tv.s) ∧ w'.cell? ⟨W.heap.size, 3, none⟩ = some (.slice t.tv.a t.tv.len t.tv.cap))) (by kernel_rfl) ?_ (fun hHeld => ?_)
  · exact KEEP
  refine wpAnyH_take (i := 0) (oi := { dst := some 43, op := Op.move (Operand.tmp 7), type := 25, pos := "arith.go:16", after := #[], guard := none }) (v := ?_) rfl (by kernel_rfl) (by kernel_rfl) (by kernel_rfl) (fun _ _ _ h => h) (Or.inl ⟨by rfl, ?_⟩) hHeld ?_
  rotate_left
  · (intro w' hSw; (try dsimp only at hSw); go_simp; try with_reducible rfl)
  try simp only [Act.put, List.setIfInBounds_toArray, List.set_cons_zero, List.set_cons_succ]
  refine wpAnyH_take (i := 1) (oi := { dst := some 44, op := Op.binOp BinOp.neq 25 (Operand.tmp 43) (Operand.const (Value.int IntKind.i64 0)) 25, type := 4, pos := "arith.go:16", after := #[{ on := 0, ground := Ground.data }], guard := none }) (v := ?_) rfl (by kernel_rfl) (by kernel_rfl) (by kernel_rfl) (fun _ _ _ h => h) (Or.inl ⟨by rfl, ?_⟩) hHeld ?_
  rotate_left
  · (intro w' hSw; (try dsimp only at hSw); go_simp; try with_reducible rfl)
  try simp only [Act.put, List.setIfInBounds_toArray, List.set_cons_zero, List.set_cons_succ]
  refine wpAnyH_take (i := 2) (oi := { dst := some 45, op := Op.move (Operand.tmp 44), type := 4, pos := "arith.go:16", after := #[{ on := 1, ground := Ground.data }], guard := none }) (v := ?_) rfl (by kernel_rfl) (by kernel_rfl) (by kernel_rfl) (fun _ _ _ h => h) (Or.inl ⟨by rfl, ?_⟩) hHeld ?_
  rotate_left
  · (intro w' hSw; (try dsimp only at hSw); go_simp; try with_reducible rfl)
  try simp only [Act.put, List.setIfInBounds_toArray, List.set_cons_zero, List.set_cons_succ]
  refine wpAnyH_take (i := 3) (oi := { dst := some 46, op := Op.load 24 (Operand.tmp 6), type := 24, pos := "arith.go:16", after := #[{ on := 2, ground := Ground.guard }], guard := some (2, false) }) (v := ?_) rfl (by kernel_rfl) (by kernel_rfl) (by kernel_rfl) (fun _ _ _ h => h) (Or.inl ⟨by rfl, ?_⟩) hHeld ?_
  rotate_left
  · (intro w' hSw; (try dsimp only at hSw); go_simp; try with_reducible rfl)
  try simp only [Act.put, List.setIfInBounds_toArray, List.set_cons_zero, List.set_cons_succ]
  refine wpAnyH_take (i := 4) (oi := { dst := some 47, op := Op.load 24 (Operand.tmp 1), type := 24, pos := "arith.go:16", after := #[{ on := 2, ground := Ground.guard }], guard := some (2, false) }) (v := ?_) rfl (by kernel_rfl) (by kernel_rfl) (by kernel_rfl) (fun _ _ _ h => h) (Or.inl ⟨by rfl, ?_⟩) hHeld ?_
  rotate_left
  · (intro w' hSw; (try dsimp only at hSw); go_simp; try with_reducible rfl)
  try simp only [Act.put, List.setIfInBounds_toArray, List.set_cons_zero, List.set_cons_succ]
  refine wpAnyH_ready (rs := [5]) (by kernel_rfl) (by simp) ?_
  refine AllReadyH.cons (o := { dst := some 48, op := Op.call { callee := Callee.value (Operand.func 13), args := #[Operand.tmp 47], argTypes := #[24] }, type := 24, pos := "arith.go:16", after := #[{ on := 4, ground := Ground.data }, { on := 2, ground := Ground.chain }, { on := 2, ground := Ground.guard }], guard := some (2, false) }) rfl (fun K hK => ?_) AllReadyH.nil
  have hHold := hHeld
  clear hHeld
  go_simp
  refine (HRF.out _ ((hBW6).drew)).mono ?_
  rintro e W7 ⟨y, rfl, hbW7, hy⟩
  have gW7 : Below W6.heap.size W6 W7 := (Below.refl _ W6).drew.trans hbW7
  have sW7 := gW7.size
  have hS : Calls Try.prog 12 #[f.val, y.val] W7 fun e W' => e = .returned (.bool true) ∧ Below W7.heap.size W7 W' := same_mix (hfW6.below gW7) hy
  simp only [TV.val] at hS
  have bTW7 := bTW6.below gW7 (by omega)
  have bQW7 := bQW6.below gW7 (by omega)
  have bFW7 := bFW6.below gW7 (by omega)
  have KEEP : W7.cell? ⟨W4.heap.size, 0, none⟩ = some (.int .i64 f.k) ∧ W7.cell? ⟨W4.heap.size, 1, none⟩ = some (.int .i64 f.N) ∧ W7.cell? ⟨W4.heap.size, 2, none⟩ = some (.string f.s) ∧ W7.cell? ⟨W4.heap.size, 3, none⟩ = some (.slice f.a f.len f.cap) ∧ W7.cell? ⟨W.heap.size, 0, none⟩ = some (.int .i64 t.tv.k) ∧ W7.cell? ⟨W.heap.size, 1, none⟩ = some (.int .i64 t.tv.N) ∧ W7.cell? ⟨W.heap.size, 2, none⟩ = some (.string t.tv.s) ∧ W7.cell? ⟨W.heap.size, 3, none⟩ = some (.slice t.tv.a t.tv.len t.tv.cap) := ⟨bFW7.c0, bFW7.c1, bFW7.c2, bFW7.c3, bTW7.c0, bTW7.c1, bTW7.c2, bTW7.c3⟩
  go_wp2_with fail
  refine hK.out _ _ ?_ (fun hHeld => ?_)
  · ((try dsimp only); exact KEEP)
  clear hK K hHold
  try simp only [Act.put, List.setIfInBounds_toArray, List.set_cons_zero, List.set_cons_succ]
  refine wpAnyH_ready (rs := [6]) (by kernel_rfl) (by simp) ?_
  refine AllReadyH.cons (o := { dst := some 49, op := Op.call { callee := Callee.value (Operand.func 12), args := #[Operand.tmp 46, Operand.tmp 48], argTypes := #[24, 24] }, type := 4, pos := "arith.go:16", after := #[{ on := 3, ground := Ground.data }, { on := 5, ground := Ground.data }, { on := 5, ground := Ground.chain }, { on := 2, ground := Ground.guard }], guard := some (2, false) }) rfl (fun K hK => ?_) AllReadyH.nil
  have hHold := hHeld
  clear hHeld
  go_simp
  refine (hS).mono ?_
  rintro e W8 ⟨rfl, hbW8⟩
  have gW8 := hbW8
  have sW8 := gW8.size
  have hBW8 : Below W.heap.size W W8 := (hBW6.trans (gW7.mono (by omega))).trans (gW8.mono (by omega))
  have bTW8 := bTW7.below gW8 (by omega)
  have bQW8 := bQW7.below gW8 (by omega)
  have bFW8 := bFW7.below gW8 (by omega)
  have KEEP : W8.cell? ⟨W4.heap.size, 0, none⟩ = some (.int .i64 f.k) ∧ W8.cell? ⟨W4.heap.size, 1, none⟩ = some (.int .i64 f.N) ∧ W8.cell? ⟨W4.heap.size, 2, none⟩ = some (.string f.s) ∧ W8.cell? ⟨W4.heap.size, 3, none⟩ = some (.slice f.a f.len f.cap) ∧ W8.cell? ⟨W.heap.size, 0, none⟩ = some (.int .i64 t.tv.k) ∧ W8.cell? ⟨W.heap.size, 1, none⟩ = some (.int .i64 t.tv.N) ∧ W8.cell? ⟨W.heap.size, 2, none⟩ = some (.string t.tv.s) ∧ W8.cell? ⟨W.heap.size, 3, none⟩ = some (.slice t.tv.a t.tv.len t.tv.cap) := ⟨bFW8.c0, bFW8.c1, bFW8.c2, bFW8.c3, bTW8.c0, bTW8.c1, bTW8.c2, bTW8.c3⟩
  go_wp2_with fail
  refine hK.out _ _ ?_ (fun hHeld => ?_)
  · ((try dsimp only); exact KEEP)
  clear hK K hHold
  try simp only [Act.put, List.setIfInBounds_toArray, List.set_cons_zero, List.set_cons_succ]
  refine wpAnyH_take (i := 7) (oi := { dst := some 50, op := Op.unOp UnOp.not 4 (Operand.tmp 49), type := 4, pos := "arith.go:16", after := #[{ on := 6, ground := Ground.data }, { on := 2, ground := Ground.guard }], guard := some (2, false) }) (v := ?_) rfl (by kernel_rfl) (by kernel_rfl) (by kernel_rfl) (fun _ _ _ h => h) (Or.inl ⟨by rfl, ?_⟩) hHeld ?_
  rotate_left
  · (intro w' hSw; (try dsimp only at hSw); go_simp; try with_reducible rfl)
  try simp only [Act.put, List.setIfInBounds_toArray, List.set_cons_zero, List.set_cons_succ]
  refine wpAnyH_take (i := 8) (oi := { dst := some 51, op := Op.pick (Operand.tmp 45) (Operand.const (Value.bool true)) (Operand.tmp 50), type := 4, pos := "arith.go:16", after := #[{ on := 2, ground := Ground.data }, { on := 7, ground := Ground.data }], guard := none }) (v := ?_) rfl (by kernel_rfl) (by kernel_rfl) (by kernel_rfl) (fun _ _ _ h => h) (Or.inl ⟨by rfl, ?_⟩) hHeld ?_
  rotate_left
  · (intro w' hSw; (try dsimp only at hSw); go_simp; try with_reducible rfl)
  try simp only [Act.put, List.setIfInBounds_toArray, List.set_cons_zero, List.set_cons_succ]
  refine wpAnyH_done (by kernel_rfl) ?_ _
  refine NoPanic.normal ?_
  clear hHeld KEEP
  have c0 := bTW8.c0
  have c1 := bTW8.c1
  have c2 := bTW8.c2
  have c3 := bTW8.c3
  have hR := HRE.out W8 hBW8
  simp only [RSays, noTerm, TV.val] at hR
  have HQ8 := hide bQW8
  clear bQW8
  clear bTW6 bQW6 bFW6 bTW7 bQW7 bFW7 bTW8 bFW8 hbW7 gW7 hy gW8 hbW8 hfW6
  go_wp2_with fail
  refine hR.mono ?_
  rintro e W9 ⟨rfl, hb9⟩
  have s9 := hb9.size
  clear hR c0 c1 c2 c3
  have bQX : BoxT (W9.alloc (.cells #[.int .i64 0, .int .i64 0, .string ⟨#[]⟩, .slice none 0 0] 24)) W2.heap.size q := ((unhide HQ8).below hb9 (by omega)).alloc _
  have q0 := bQX.c0
  have q1 := bQX.c1
  have q2 := bQX.c2
  have q3 := bQX.c3
  have hnn := fun w => none_q q HHQ.out w
  simp only [TV.val] at hnn
  have HBX : Hid (Below W.heap.size W (W9.alloc (.cells #[.int .i64 0, .int .i64 0, .string ⟨#[]⟩, .slice none 0 0] 24))) := (hBW8.trans (hb9.mono (by omega))).alloc (by omega) _
  clear bQX
  go_wp2_with fail
  refine (hnn _).mono ?_
  rintro e W10 ⟨rfl, hb10⟩
  have HF : Hid (Below W.heap.size W W10) := (show Below _ _ _ from HBX.out).trans (hb10.mono (by simp; omega))
  clear hnn hb10
  go_wp2_with fail
  all_goals go_ret
  all_goals exact ⟨rfl, HF.out⟩
set_option maxRecDepth 100000 in
set_option maxHeartbeats 4000000 in
theorem says_err {n : Nat} (t : Tm n) (W : World) (hT : IsT W.heap.size W t) (hok : okT t = true) (hnum : numsT t) (c : List Nd) (hev : evT t = .error c) (hn40 : n ≤ 1048576) :
    Calls Try.prog 3 #[t.tv.val] W fun e W' => e = .returned (.bool true) ∧ Below W.heap.size W W' := by
  obtain ⟨W1, hW1, hb1, hs1, bT⟩ := box_one W t.tv
  have hE := eval_e t W1 ((hT.below hb1).mono (by omega)) hok hnum c hev
  have HFO : Hid (∀ V, Below W.heap.size W V → _) := fun V (hb : Below W.heap.size W V) => afold_ok t V ((hT.below hb).mono hb.size) hok hnum
  have HFM : Hid (∀ V, Below W.heap.size W V → Calls Try.prog 10 #[t.tv.val] V fun e W' => e = .returned (.bool true) ∧ Below V.heap.size V W') := fun V (hb : Below W.heap.size W V) => by have h := formed_any _ t V ((hT.below hb).mono hb.size); rw [hok] at h; exact h
  have HRF : Hid (∀ V, Below W.heap.size W V → _) := fun V (hb : Below W.heap.size W V) => rfold_any t V ((hT.below hb).mono hb.size) hok hnum
  have HRE : Hid (∀ V, Below W.heap.size W V → _) := fun V (hb : Below W.heap.size W V) => reval_any t V ((hT.below hb).mono hb.size) hok hnum
  rw [hev] at HRE
  simp only [TV.val] at hE HFO HFM HRF HRE ⊢
  have HEV : Hid _ := hev
  clear hT hok hnum hev
  have c0 := bT.c0
  have c1 := bT.c1
  have c2 := bT.c2
  have c3 := bT.c3
  go_enter Try.func3, Try.ntmps3
  go_wp2_with fail
  refine hE.mono ?_
  rintro e W2 ⟨q, rfl, hq, hb2⟩
  try rw [hW1] at hb2
  clear hE hW1 c0 c1 c2 c3
  have s2 := hb2.size
  obtain ⟨W3, hW3, hb3, s3, bQW3⟩ : ∃ W3, W2.alloc (.cells #[.int .i64 q.k, .int .i64 q.N, .string q.s, .slice q.a q.len q.cap] 24) = W3 ∧ Below W2.heap.size W2 W3 ∧ W3.heap.size = W2.heap.size + 1 ∧ BoxT W3 W2.heap.size q := ⟨_, rfl, (Below.refl _ _).alloc (Nat.le_refl _) _, by simp, BoxT.new W2 q⟩
  have hBW3 : Below W.heap.size W W3 := (hb1.trans (hb2.mono (by omega))).trans (hb3.mono (by omega))
  have bTW3 := (bT.below hb2 (by omega)).below hb3 (by omega)
  have hF := HFO.out W3 hBW3
  have c0 := bTW3.c0
  have c1 := bTW3.c1
  have c2 := bTW3.c2
  have c3 := bTW3.c3
  have HQ3 := hide bQW3
  have HT3 := hide bTW3
  clear bQW3 bTW3 bT
  go_wp2_with fail
  try rw [hW3]
  refine hF.mono ?_
  rintro e W4 ⟨f, rfl, hb4, hf⟩
  clear hF hW3 c0 c1 c2 c3
  have s4 := hb4.size
  obtain ⟨W5, hW5, hb5, s5, bFW5⟩ : ∃ W5, W4.alloc (.cells #[.int .i64 f.k, .int .i64 f.N, .string f.s, .slice f.a f.len f.cap] 24) = W5 ∧ Below W4.heap.size W4 W5 ∧ W5.heap.size = W4.heap.size + 1 ∧ BoxT W5 W4.heap.size f := ⟨_, rfl, (Below.refl _ _).alloc (Nat.le_refl _) _, by simp, BoxT.new W4 f⟩
  have hBW5 : Below W.heap.size W W5 := (hBW3.trans (hb4.mono (by omega))).trans (hb5.mono (by omega))
  have bTW5 := ((unhide HT3).below hb4 (by omega)).below hb5 (by omega)
  have bQW5 := ((unhide HQ3).below hb4 (by omega)).below hb5 (by omega)
  have hFm := HFM.out W5 hBW5
  have hf5 := hf.below hb5
  have c0 := bTW5.c0
  have c1 := bTW5.c1
  have c2 := bTW5.c2
  have c3 := bTW5.c3
  have HF5 := hide bFW5
  have HT5 := hide bTW5
  have HQ5 := hide bQW5
  have hb4'' : Below W3.heap.size W3 W5 := hb4.trans (hb5.mono (by omega))
  clear bFW5 bTW5 bQW5 HQ3 HT3 hf hb4
  go_wp2_with fail
  try rw [hW5]
  refine hFm.mono ?_
  rintro e W6 ⟨rfl, hb6⟩
  clear hFm hW5 c0 c1 c2 c3
  have s6 := hb6.size
  have hBW6 : Below W.heap.size W W6 := hBW5.trans (hb6.mono (by omega))
  have bTW6 := (unhide HT5).below hb6 (by omega)
  have bQW6 := (unhide HQ5).below hb6 (by omega)
  have bFW6 := (unhide HF5).below hb6 (by omega)
  have hfW6 := hf5.below hb6
  clear HT5 HQ5 HF5 hf5
  have HTV6 := hide bTW6
  go_upto_region 5 with fail
  have KEEP : W6.cell? ⟨W4.heap.size, 0, none⟩ = some (.int .i64 f.k) ∧ W6.cell? ⟨W4.heap.size, 1, none⟩ = some (.int .i64 f.N) ∧ W6.cell? ⟨W4.heap.size, 2, none⟩ = some (.string f.s) ∧ W6.cell? ⟨W4.heap.size, 3, none⟩ = some (.slice f.a f.len f.cap) ∧ W6.cell? ⟨W.heap.size, 0, none⟩ = some (.int .i64 t.tv.k) ∧ W6.cell? ⟨W.heap.size, 1, none⟩ = some (.int .i64 t.tv.N) ∧ W6.cell? ⟨W.heap.size, 2, none⟩ = some (.string t.tv.s) ∧ W6.cell? ⟨W.heap.size, 3, none⟩ = some (.slice t.tv.a t.tv.len t.tv.cap) := ⟨bFW6.c0, bFW6.c1, bFW6.c2, bFW6.c3, bTW6.c0, bTW6.c1, bTW6.c2, bTW6.c3⟩
  refine wp_region_noPanic ?_
  refine wp_region_held_drew (S := (fun w' => w'.cell? ⟨W4.heap.size, 0, none⟩ = some (.int .i64 f.k) ∧ w'.cell? ⟨W4.heap.size, 1, none⟩ = some (.int .i64 f.N) ∧ w'.cell? ⟨W4.heap.size, 2, none⟩ = some (.string f.s) ∧ w'.cell? ⟨W4.heap.size, 3, none⟩ = some (.slice f.a f.len f.cap) ∧ w'.cell? ⟨W.heap.size, 0, none⟩ = some (.int .i64 t.tv.k) ∧ w'.cell? ⟨W.heap.size, 1, none⟩ = some (.int .i64 t.tv.N) ∧ w'.cell? ⟨W.heap.size, 2, none⟩ = some (.string t.tv.s) ∧ w'.cell? ⟨W.heap.size, 3, none⟩ = some (.slice t.tv.a t.tv.len t.tv.cap))) (by kernel_rfl) ?_ (fun hHeld => ?_)
  · exact KEEP
  refine wpAnyH_take (i := 0) (oi := { dst := some 43, op := Op.move (Operand.tmp 7), type := 25, pos := "arith.go:16", after := #[], guard := none }) (v := ?_) rfl (by kernel_rfl) (by kernel_rfl) (by kernel_rfl) (fun _ _ _ h => h) (Or.inl ⟨by rfl, ?_⟩) hHeld ?_
  rotate_left
  · (intro w' hSw; (try dsimp only at hSw); go_simp; try with_reducible rfl)
  try simp only [Act.put, List.setIfInBounds_toArray, List.set_cons_zero, List.set_cons_succ]
  refine wpAnyH_take (i := 1) (oi := { dst := some 44, op := Op.binOp BinOp.neq 25 (Operand.tmp 43) (Operand.const (Value.int IntKind.i64 0)) 25, type := 4, pos := "arith.go:16", after := #[{ on := 0, ground := Ground.data }], guard := none }) (v := ?_) rfl (by kernel_rfl) (by kernel_rfl) (by kernel_rfl) (fun _ _ _ h => h) (Or.inl ⟨by rfl, ?_⟩) hHeld ?_
  rotate_left
  · (intro w' hSw; (try dsimp only at hSw); go_simp; try with_reducible rfl)
  try simp only [Act.put, List.setIfInBounds_toArray, List.set_cons_zero, List.set_cons_succ]
  refine wpAnyH_take (i := 2) (oi := { dst := some 45, op := Op.move (Operand.tmp 44), type := 4, pos := "arith.go:16", after := #[{ on := 1, ground := Ground.data }], guard := none }) (v := ?_) rfl (by kernel_rfl) (by kernel_rfl) (by kernel_rfl) (fun _ _ _ h => h) (Or.inl ⟨by rfl, ?_⟩) hHeld ?_
  rotate_left
  · (intro w' hSw; (try dsimp only at hSw); go_simp; try with_reducible rfl)
  try simp only [Act.put, List.setIfInBounds_toArray, List.set_cons_zero, List.set_cons_succ]
  refine wpAnyH_take (i := 3) (oi := { dst := some 46, op := Op.load 24 (Operand.tmp 6), type := 24, pos := "arith.go:16", after := #[{ on := 2, ground := Ground.guard }], guard := some (2, false) }) (v := ?_) rfl (by kernel_rfl) (by kernel_rfl) (by kernel_rfl) (fun _ _ _ h => h) (Or.inl ⟨by rfl, ?_⟩) hHeld ?_
  rotate_left
  · (intro w' hSw; (try dsimp only at hSw); go_simp; try with_reducible rfl)
  try simp only [Act.put, List.setIfInBounds_toArray, List.set_cons_zero, List.set_cons_succ]
  refine wpAnyH_take (i := 4) (oi := { dst := some 47, op := Op.load 24 (Operand.tmp 1), type := 24, pos := "arith.go:16", after := #[{ on := 2, ground := Ground.guard }], guard := some (2, false) }) (v := ?_) rfl (by kernel_rfl) (by kernel_rfl) (by kernel_rfl) (fun _ _ _ h => h) (Or.inl ⟨by rfl, ?_⟩) hHeld ?_
  rotate_left
  · (intro w' hSw; (try dsimp only at hSw); go_simp; try with_reducible rfl)
  try simp only [Act.put, List.setIfInBounds_toArray, List.set_cons_zero, List.set_cons_succ]
  refine wpAnyH_ready (rs := [5]) (by kernel_rfl) (by simp) ?_
  refine AllReadyH.cons (o := { dst := some 48, op := Op.call { callee := Callee.value (Operand.func 13), args := #[Operand.tmp 47], argTypes := #[24] }, type := 24, pos := "arith.go:16", after := #[{ on := 4, ground := Ground.data }, { on := 2, ground := Ground.chain }, { on := 2, ground := Ground.guard }], guard := some (2, false) }) rfl (fun K hK => ?_) AllReadyH.nil
  have hHold := hHeld
  clear hHeld
  go_simp
  refine (HRF.out _ ((hBW6).drew)).mono ?_
  rintro e W7 ⟨y, rfl, hbW7, hy⟩
  have gW7 : Below W6.heap.size W6 W7 := (Below.refl _ W6).drew.trans hbW7
  have sW7 := gW7.size
  have hS : Calls Try.prog 12 #[f.val, y.val] W7 fun e W' => e = .returned (.bool true) ∧ Below W7.heap.size W7 W' := same_mix (hfW6.below gW7) hy
  simp only [TV.val] at hS
  have bTW7 := bTW6.below gW7 (by omega)
  have bQW7 := bQW6.below gW7 (by omega)
  have bFW7 := bFW6.below gW7 (by omega)
  have KEEP : W7.cell? ⟨W4.heap.size, 0, none⟩ = some (.int .i64 f.k) ∧ W7.cell? ⟨W4.heap.size, 1, none⟩ = some (.int .i64 f.N) ∧ W7.cell? ⟨W4.heap.size, 2, none⟩ = some (.string f.s) ∧ W7.cell? ⟨W4.heap.size, 3, none⟩ = some (.slice f.a f.len f.cap) ∧ W7.cell? ⟨W.heap.size, 0, none⟩ = some (.int .i64 t.tv.k) ∧ W7.cell? ⟨W.heap.size, 1, none⟩ = some (.int .i64 t.tv.N) ∧ W7.cell? ⟨W.heap.size, 2, none⟩ = some (.string t.tv.s) ∧ W7.cell? ⟨W.heap.size, 3, none⟩ = some (.slice t.tv.a t.tv.len t.tv.cap) := ⟨bFW7.c0, bFW7.c1, bFW7.c2, bFW7.c3, bTW7.c0, bTW7.c1, bTW7.c2, bTW7.c3⟩
  go_wp2_with fail
  refine hK.out _ _ ?_ (fun hHeld => ?_)
  · ((try dsimp only); exact KEEP)
  clear hK K hHold
  try simp only [Act.put, List.setIfInBounds_toArray, List.set_cons_zero, List.set_cons_succ]
  refine wpAnyH_ready (rs := [6]) (by kernel_rfl) (by simp) ?_
  refine AllReadyH.cons (o := { dst := some 49, op := Op.call { callee := Callee.value (Operand.func 12), args := #[Operand.tmp 46, Operand.tmp 48], argTypes := #[24, 24] }, type := 4, pos := "arith.go:16", after := #[{ on := 3, ground := Ground.data }, { on := 5, ground := Ground.data }, { on := 5, ground := Ground.chain }, { on := 2, ground := Ground.guard }], guard := some (2, false) }) rfl (fun K hK => ?_) AllReadyH.nil
  have hHold := hHeld
  clear hHeld
  go_simp
  refine (hS).mono ?_
  rintro e W8 ⟨rfl, hbW8⟩
  have gW8 := hbW8
  have sW8 := gW8.size
  have hBW8 : Below W.heap.size W W8 := (hBW6.trans (gW7.mono (by omega))).trans (gW8.mono (by omega))
  have bTW8 := bTW7.below gW8 (by omega)
  have bQW8 := bQW7.below gW8 (by omega)
  have bFW8 := bFW7.below gW8 (by omega)
  have KEEP : W8.cell? ⟨W4.heap.size, 0, none⟩ = some (.int .i64 f.k) ∧ W8.cell? ⟨W4.heap.size, 1, none⟩ = some (.int .i64 f.N) ∧ W8.cell? ⟨W4.heap.size, 2, none⟩ = some (.string f.s) ∧ W8.cell? ⟨W4.heap.size, 3, none⟩ = some (.slice f.a f.len f.cap) ∧ W8.cell? ⟨W.heap.size, 0, none⟩ = some (.int .i64 t.tv.k) ∧ W8.cell? ⟨W.heap.size, 1, none⟩ = some (.int .i64 t.tv.N) ∧ W8.cell? ⟨W.heap.size, 2, none⟩ = some (.string t.tv.s) ∧ W8.cell? ⟨W.heap.size, 3, none⟩ = some (.slice t.tv.a t.tv.len t.tv.cap) := ⟨bFW8.c0, bFW8.c1, bFW8.c2, bFW8.c3, bTW8.c0, bTW8.c1, bTW8.c2, bTW8.c3⟩
  go_wp2_with fail
  refine hK.out _ _ ?_ (fun hHeld => ?_)
  · ((try dsimp only); exact KEEP)
  clear hK K hHold
  try simp only [Act.put, List.setIfInBounds_toArray, List.set_cons_zero, List.set_cons_succ]
  refine wpAnyH_take (i := 7) (oi := { dst := some 50, op := Op.unOp UnOp.not 4 (Operand.tmp 49), type := 4, pos := "arith.go:16", after := #[{ on := 6, ground := Ground.data }, { on := 2, ground := Ground.guard }], guard := some (2, false) }) (v := ?_) rfl (by kernel_rfl) (by kernel_rfl) (by kernel_rfl) (fun _ _ _ h => h) (Or.inl ⟨by rfl, ?_⟩) hHeld ?_
  rotate_left
  · (intro w' hSw; (try dsimp only at hSw); go_simp; try with_reducible rfl)
  try simp only [Act.put, List.setIfInBounds_toArray, List.set_cons_zero, List.set_cons_succ]
  refine wpAnyH_take (i := 8) (oi := { dst := some 51, op := Op.pick (Operand.tmp 45) (Operand.const (Value.bool true)) (Operand.tmp 50), type := 4, pos := "arith.go:16", after := #[{ on := 2, ground := Ground.data }, { on := 7, ground := Ground.data }], guard := none }) (v := ?_) rfl (by kernel_rfl) (by kernel_rfl) (by kernel_rfl) (fun _ _ _ h => h) (Or.inl ⟨by rfl, ?_⟩) hHeld ?_
  rotate_left
  · (intro w' hSw; (try dsimp only at hSw); go_simp; try with_reducible rfl)
  try simp only [Act.put, List.setIfInBounds_toArray, List.set_cons_zero, List.set_cons_succ]
  refine wpAnyH_done (by kernel_rfl) ?_ _
  refine NoPanic.normal ?_
  clear hHeld KEEP
  have c0 := bTW8.c0
  have c1 := bTW8.c1
  have c2 := bTW8.c2
  have c3 := bTW8.c3
  have hR := HRE.out W8 hBW8
  simp only [RSays] at hR
  have HQ8 := hide bQW8
  have hqW8 : HoldsT 3 W1.heap.size W8 q.val c := (((((hq.below hb3).below hb4'').below hb6).below gW7).below gW8)
  clear bQW8
  clear bTW6 bQW6 bFW6 bTW7 bQW7 bFW7 bTW8 bFW8 hbW7 gW7 hy gW8 hbW8 hfW6
  go_wp2_with fail
  refine hR.mono ?_
  rintro e W9 ⟨⟨z, rfl, hz⟩, hb9⟩
  have s9 := hb9.size
  clear hR c0 c1 c2 c3
  obtain ⟨WX, hWX, hbX, sX, bZX⟩ : ∃ WX, W9.alloc (.cells #[.int .i64 z.k, .int .i64 z.N, .string z.s, .slice z.a z.len z.cap] 24) = WX ∧ Below W9.heap.size W9 WX ∧ WX.heap.size = W9.heap.size + 1 ∧ BoxT WX W9.heap.size z := ⟨_, rfl, (Below.refl _ _).alloc (Nat.le_refl _) _, by simp, BoxT.new W9 z⟩
  have bQX := ((unhide HQ8).below hb9 (by omega)).below hbX (by omega)
  have q0 := bQX.c0
  have q1 := bQX.c1
  have q2 := bQX.c2
  have q3 := bQX.c3
  have z0 := bZX.c0
  have z1 := bZX.c1
  have z2 := bZX.c2
  have z3 := bZX.c3
  have hS := same_holds (((hqW8.below hb9)).below hbX) (hz.below hbX)
  simp only [decide_true] at hS
  have hBX : Below W.heap.size W WX := (hBW8.trans (hb9.mono (by omega))).trans (hbX.mono (by omega))
  clear bQX bZX hz hqW8
  simp only [TV.val] at hS ⊢
  go_wp2_with fail
  try rw [hWX]
  refine hS.mono ?_
  rintro e W10 ⟨rfl, hb10⟩
  have HF : Hid (Below W.heap.size W W10) := hBX.trans (hb10.mono (by omega))
  clear hS hb10
  go_wp2_with fail
  all_goals go_ret
  all_goals exact ⟨rfl, HF.out⟩

end Go.Proofs.Ytffbhinpmlcopab

