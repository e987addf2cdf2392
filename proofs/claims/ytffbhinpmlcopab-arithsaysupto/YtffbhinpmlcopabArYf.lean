import Derived.Test.YtffbhinpmlcopabArYe
/- The law ArithSays: no term; whole. -/
namespace Go.Proofs.Ytffbhinpmlcopab
open Go.RowKit Go.Shelf

theorem evalb_q {n : Nat} (t : Tm n) (W : World) (hT : IsT W.heap.size W t) (hok : okT t = false) :
    Calls Try.prog 8 #[t.tv.val] W fun e W' => ∃ q : TV, e = .returned (.tuple #[.int .i64 0, q.val, .int .i64 2]) ∧ q = noTerm ∧ Below W.heap.size W W' :=
  (eval_bad t W hT hok).mono fun _ _ k => ⟨noTerm, k.1, rfl, k.2⟩
theorem foldb_q {n : Nat} (t : Tm n) (W : World) (hT : IsT W.heap.size W t) (hok : okT t = false) :
    Calls Try.prog 9 #[t.tv.val] W fun e W' => ∃ q : TV, e = .returned (.tuple #[q.val, .int .i64 2]) ∧ q = noTerm ∧ Below W.heap.size W W' :=
  (afold_bad t W hT hok).mono fun _ _ k => ⟨noTerm, k.1, rfl, k.2⟩

set_option maxRecDepth 100000 in
set_option maxHeartbeats 4000000 in
theorem says_bad {n : Nat} (t : Tm n) (W : World) (hT : IsT W.heap.size W t) (hok : okT t = false) :
    Calls Try.prog 3 #[t.tv.val] W fun e W' => e = .returned (.bool true) ∧ Below W.heap.size W W' := by
  obtain ⟨W1, hW1, hb1, hs1, bT⟩ := box_one W t.tv
  have hE := evalb_q t W1 ((hT.below hb1).mono (by omega)) hok
  have HFO : Hid (∀ V, Below W.heap.size W V → _) := fun V (hb : Below W.heap.size W V) => foldb_q t V ((hT.below hb).mono hb.size) hok
  have HFM : Hid (∀ V, Below W.heap.size W V → Calls Try.prog 10 #[t.tv.val] V fun e W' => e = .returned (.bool false) ∧ Below V.heap.size V W') := fun V (hb : Below W.heap.size W V) => by have h := formed_any _ t V ((hT.below hb).mono hb.size); rw [hok] at h; exact h
  simp only [TV.val] at hE HFO HFM ⊢
  clear hT hok
  have c0 := bT.c0
  have c1 := bT.c1
  have c2 := bT.c2
  have c3 := bT.c3
  go_enter Try.func3, Try.ntmps3
  go_wp2_with fail
  refine hE.mono ?_
  rintro e W2 ⟨q, rfl, hq, hb2⟩
  have HHQ : Hid (q = noTerm) := hq
  clear hq
  try rw [hW1] at hb2
  clear hE hW1 c0 c1 c2 c3
  have s2 := hb2.size
  obtain ⟨W3, hW3, hb3, s3, bQW3⟩ : ∃ W3, W2.alloc (.cells #[.int .i64 q.k, .int .i64 q.N, .string q.s, .slice q.a q.len q.cap] 24) = W3 ∧ Below W2.heap.size W2 W3 ∧ W3.heap.size = W2.heap.size + 1 ∧ BoxT W3 W2.heap.size q := ⟨_, rfl, (Below.refl _ _).alloc (Nat.le_refl _) _, by simp, BoxT.new W2 q⟩
  have hBW3 : Below W.heap.size W W3 := (hb1.trans (hb2.mono (by omega))).trans (hb3.mono (by omega))
  have bTW3 := (bT.below hb2 (by omega)).below hb3 (by omega)
  have hF := HFO.out W3 hBW3
  have c0 := bTW3.c0
  have c1 := bTW3.c1
  have c2 := bTW3.c2
  have c3 := bTW3.c3
  have HQ3 := hide bQW3
  have HT3 := hide bTW3
  clear bQW3 bTW3 bT
  go_wp2_with fail
  try rw [hW3]
  refine hF.mono ?_
  rintro e W4 ⟨f, rfl, hf, hb4⟩
  have HHF : Hid (f = noTerm) := hf
  clear hf
  clear hF hW3 c0 c1 c2 c3
  have s4 := hb4.size
  obtain ⟨W5, hW5, hb5, s5, bFW5⟩ : ∃ W5, W4.alloc (.cells #[.int .i64 f.k, .int .i64 f.N, .string f.s, .slice f.a f.len f.cap] 24) = W5 ∧ Below W4.heap.size W4 W5 ∧ W5.heap.size = W4.heap.size + 1 ∧ BoxT W5 W4.heap.size f := ⟨_, rfl, (Below.refl _ _).alloc (Nat.le_refl _) _, by simp, BoxT.new W4 f⟩
  have hBW5 : Below W.heap.size W W5 := (hBW3.trans (hb4.mono (by omega))).trans (hb5.mono (by omega))
  have bTW5 := ((unhide HT3).below hb4 (by omega)).below hb5 (by omega)
  have bQW5 := ((unhide HQ3).below hb4 (by omega)).below hb5 (by omega)
  have hFm := HFM.out W5 hBW5
  have c0 := bTW5.c0
  have c1 := bTW5.c1
  have c2 := bTW5.c2
  have c3 := bTW5.c3
  have HF5 := hide bFW5
  have HQ5 := hide bQW5
  clear bFW5 bTW5 bQW5 HQ3 HT3 hb4
  go_wp2_with fail
  try rw [hW5]
  refine hFm.mono ?_
  rintro e W6 ⟨rfl, hb6⟩
  clear hFm hW5 c0 c1 c2 c3
  have s6 := hb6.size
  have hBW6 : Below W.heap.size W W6 := hBW5.trans (hb6.mono (by omega))
  have bQW6 := (unhide HQ5).below hb6 (by omega)
  have bFW6 := (unhide HF5).below hb6 (by omega)
  have hnn := fun w => none_q q HHQ.out w
  have hnf := fun w => none_q f HHF.out w
  simp only [TV.val] at hnn hnf
  have q0 := bQW6.c0
  have q1 := bQW6.c1
  have q2 := bQW6.c2
  have q3 := bQW6.c3
  have HF6 := hide bFW6
  clear bQW6 bFW6 HQ5 HF5
  go_wp2_with fail
  refine (hnn _).mono ?_
  rintro e W7 ⟨rfl, hb7⟩
  have bFW7 := (unhide HF6).below hb7 (by omega)
  have f0 := bFW7.c0
  have f1 := bFW7.c1
  have f2 := bFW7.c2
  have f3 := bFW7.c3
  have hBW7 : Below W.heap.size W W7 := hBW6.trans (hb7.mono (by omega))
  clear hnn q0 q1 q2 q3 bFW7
  go_wp2_with fail
  refine (hnf _).mono ?_
  rintro e W8 ⟨rfl, hb8⟩
  have HB : Hid (Below W.heap.size W W8) := hBW7.trans (hb8.mono hBW7.size)
  clear hnf f0 f1 f2 f3
  go_wp2_with fail
  all_goals go_ret
  all_goals exact ⟨rfl, HB.out⟩

theorem arithSays_any {n : Nat} (t : Tm n) (W : World) (hT : IsT W.heap.size W t) (hnum : numsT t) (hn40 : n ≤ 1048576) :
    Calls Try.prog 3 #[t.tv.val] W fun e W' => e = .returned (.bool true) ∧ Below W.heap.size W W' := by
  cases hok : okT t with
  | false => exact says_bad t W hT hok
  | true =>
    cases hev : evT t with
    | ok m => exact says_ok t W hT hok hnum m hev hn40
    | error c => exact says_err t W hT hok hnum c hev hn40
end Go.Proofs.Ytffbhinpmlcopab

