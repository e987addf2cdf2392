import Derived.Test.YtffbhinpmlcopabArZb
import Derived.Test.YtffbhinpmlcopabArZc
import Derived.Test.YtffbhinpmlcopabArYc
/- The law ArithFolds. -/
namespace Go.Proofs.Ytffbhinpmlcopab
open Go.RowKit Go.Shelf

/-- What Eval answers, whichever: the number (0 beside an error), the ball, the error. -/
def nAns (r : Except (List Nd) Int) : Int × List Nd × Int :=
  match r with
  | .ok m => (m, [(0, 0, [], 0)], 0)
  | .error c => (0, c, 14)
def NAll (lo : Nat) (r : Int × List Nd × Int) (e : Ending) (W' : World) : Prop :=
  ∃ t : TV, e = .returned (.tuple #[.int .i64 r.1, t.val, .int .i64 r.2.2]) ∧ HoldsT 3 lo W' t.val r.2.1
theorem num_all {lo : Nat} {r : Except (List Nd) Int} {e : Ending} {W' : World} (h : NumSays lo r e W') : NAll lo (nAns r) e W' := by
  cases r with
  | ok m =>
    refine ⟨noTerm, h, ?_⟩
    have h := holds_leaf noTerm rfl rfl rfl (by show (0 : Nat) ≤ _; omega) lo W'
    have e : noTerm.nd = (0, 0, [], 0) := by simp [TV.nd, noTerm]
    rw [e] at h
    exact h.mono (by omega) (Nat.le_refl _)
  | error c => exact h
theorem IsL.wl {n₀ : Nat} {W : World} {n : Nat} {a : Option Addr} {len : Nat} {bs : List (Int × Tm n)} (h : IsL n₀ W a len bs) : ∀ p ∈ bs, Wl p.2 := fun p hp => by
  obtain ⟨-, -, h3⟩ := h
  rcases h3 with h3 | ⟨b, off, -, -, hk⟩
  · rw [h3] at hp; cases hp
  · obtain ⟨j, hj⟩ := List.mem_iff_getElem?.1 hp
    exact (hk j p hj).2.2.wl

set_option maxRecDepth 100000 in
set_option maxHeartbeats 2000000 in
theorem folds_bad {n : Nat} (t : Tm n) (la : Option Addr) (ll lc : Nat) (W : World) (hT : IsT W.heap.size W t) (hok : okT t = false) :
    Calls Try.prog 5 #[t.tv.val, .slice la ll lc] W fun e W' => e = .returned (.bool true) ∧ Below W.heap.size W W' := by
  obtain ⟨W1, hW1, hb1, hs1, bT⟩ := box_one W t.tv
  have hth := there_any W1
  have HFM : Hid (∀ V, Below W.heap.size W V → Calls Try.prog 10 #[t.tv.val] V fun e W' => e = .returned (.bool false) ∧ Below V.heap.size V W') := fun V (hb : Below W.heap.size W V) => by have h := formed_any _ t V ((hT.below hb).mono hb.size); rw [hok] at h; exact h
  simp only [TV.val] at HFM ⊢
  clear hT hok
  go_enter Try.func5, Try.ntmps5
  go_wp2_with fail
  try rw [hW1]
  refine hth.mono ?_
  rintro e W2 ⟨rfl, hb2⟩
  clear hth hW1
  have bT2 := bT.below hb2 (by omega)
  have hB2 : Below W.heap.size W W2 := hb1.trans (hb2.mono (by omega))
  have hfm := HFM.out W2 hB2
  have c0 := bT2.c0
  have c1 := bT2.c1
  have c2 := bT2.c2
  have c3 := bT2.c3
  clear bT bT2
  go_wp2_with fail
  refine hfm.mono ?_
  rintro e W3 ⟨rfl, hb3⟩
  have HB : Hid (Below W.heap.size W W3) := hB2.trans (hb3.mono hB2.size)
  clear hfm c0 c1 c2 c3
  go_wp2
  all_goals go_ret
  all_goals exact ⟨rfl, HB.out⟩

set_option maxRecDepth 100000 in
set_option maxHeartbeats 4000000 in
theorem folds_main {n d : Nat} (t : Tm n) (bs : List (Int × Tm d)) (la : Option Addr) (ll lc : Nat) (W : World) (hT : IsT W.heap.size W t) (hL : IsL W.heap.size W la ll bs) (hok : okT t = true) (hnum : numsT t) (hbn : ∀ p ∈ bs, numsT p.2) (hn40 : n ≤ 1048576) (hd40 : d ≤ 1048576) :
    Calls Try.prog 5 #[t.tv.val, .slice la ll lc] W fun e W' => e = .returned (.bool true) ∧ Below W.heap.size W W' := by
  obtain ⟨W1, hW1, hb1, hs1, bT⟩ := box_one W t.tv
  have hth := there_any W1
  have HFM : Hid (∀ V, Below W.heap.size W V → Calls Try.prog 10 #[t.tv.val] V fun e W' => e = .returned (.bool true) ∧ Below V.heap.size V W') := fun V (hb : Below W.heap.size W V) => by have h := formed_any _ t V ((hT.below hb).mono hb.size); rw [hok] at h; exact h
  have HBI : Hid (∀ V, Below W.heap.size W V → W.heap.size ≤ V.heap.size → Calls Try.prog 18 #[.slice la ll lc] V fun e W' => BindSays [⟨la, ll, lc, bs⟩] e ∧ Below V.heap.size V W') := fun V hb hs => rbinds_any bs la ll lc V (by
    have h := hL.below hb
    obtain ⟨h1, h2, h3⟩ := h
    refine ⟨h1, h2, ?_⟩
    rcases h3 with h3 | ⟨b, off, ha, hb', hk⟩
    · exact .inl h3
    · exact .inr ⟨b, off, ha, by omega, fun j p hp => ⟨(hk j p hp).1, (hk j p hp).2.1, (hk j p hp).2.2.mono hs⟩⟩)
  have HFO : Hid (∀ V, Below W.heap.size W V → _) := fun V (hb : Below W.heap.size W V) => afold_ok t V ((hT.below hb).mono hb.size) hok hnum
  have HAP : Hid (∀ (V : World) (m : Nat) (u : Tm m), Below W.heap.size W V → IsT V.heap.size V u → okT u = true → _) := fun V m u (hb : Below W.heap.size W V) (hu : IsT V.heap.size V u) (ho : okT u = true) => rapply_any bs la ll lc W.heap.size m u V (hL.below hb) hb.size hu ho
  have HTT : Hid (IsT W.heap.size W t) := hT
  have HWB : Hid (∀ p ∈ bs, Wl p.2) := hL.wl
  have HOK : Hid (okT t = true) := hok
  have HNU : Hid (numsT t) := hnum
  have HBN : Hid (∀ p ∈ bs, numsT p.2) := hbn
  simp only [TV.val] at HFM HFO ⊢
  clear hT hL hok hnum hbn
  go_enter Try.func5, Try.ntmps5
  go_wp2_with fail
  try rw [hW1]
  refine hth.mono ?_
  rintro e W2 ⟨rfl, hb2⟩
  clear hth hW1
  have s2 := hb2.size
  have bT2 := bT.below hb2 (by omega)
  have hB2 : Below W.heap.size W W2 := hb1.trans (hb2.mono (by omega))
  have hfm := HFM.out W2 hB2
  have c0 := bT2.c0
  have c1 := bT2.c1
  have c2 := bT2.c2
  have c3 := bT2.c3
  have HT2 := hide bT2
  clear bT bT2
  go_wp2_with fail
  refine hfm.mono ?_
  rintro e W3 ⟨rfl, hb3⟩
  have s3 := hb3.size
  have hB3 : Below W.heap.size W W3 := hB2.trans (hb3.mono hB2.size)
  have bT3 := (unhide HT2).below hb3 (by omega)
  have HT3 := hide bT3
  clear hfm c0 c1 c2 c3 HT2 bT3
  have hbi := HBI.out W3 hB3 hB3.size
  go_wp2_with fail
  refine hbi.mono ?_
  rintro e W4 ⟨⟨r, rfl, r1, r2, r3⟩, hb4⟩
  have s4 := hb4.size
  have hB4 : Below W.heap.size W W4 := hB3.trans (hb4.mono hB3.size)
  clear hbi
  by_cases hr : r = 0
  · subst hr
    have hokB : ∀ p ∈ bs, okT p.2 = true := by
      by_cases h : ∀ L ∈ [(⟨la, ll, lc, bs⟩ : BL d)], okB L
      · exact h ⟨la, ll, lc, bs⟩ (by simp)
      · have := r1 h
        omega
    have hfine : ∀ p ∈ bs, okT p.2 = true ∧ numsT p.2 := fun p hp => ⟨hokB p hp, HBN.out p hp⟩
    have hw : Wl t := IsT.wl HTT.out
    obtain ⟨hf1, hf2⟩ := fold_fine hw HOK.out HNU.out
    have hokf : okT (foldT t) = true := by rw [okT_m, fold_code]; exact hf1
    have ht1 : (code t).all okM = true := by rw [← okT_m]; exact HOK.out
    have ht2 : numC (code t) := nums_m.1 HNU.out
    obtain ⟨ga1, ga2⟩ := sub_fine hfine ht1 ht2
    obtain ⟨gb1, gb2⟩ := sub_fine hfine hf1 hf2
    have hsc : (fun N => code (sig bs N)) = lookC (cb bs) := funext fun N => sig_code bs N
    have ca : code (subT (sig bs) t) = (code t).flatMap (subN (lookC (cb bs))) := by rw [sub_code (sig bs) hw HOK.out, hsc]
    have cf : code (subT (sig bs) (foldT t)) = (foldC t).flatMap (subN (lookC (cb bs))) := by rw [sub_code (sig bs) (fold_wl hw) hokf, hsc, fold_code]
    have hsw : ∀ N, Wl (sig bs N) := sig_wl HWB.out
    have hev := fold_sub (sig bs) hw HOK.out
    have HEA : Hid (∀ (V : World) (D : Nat) (S : Nat → Prop) (x : TV), D ≤ 4194304 → HoldsS D S V x.val ((code t).flatMap (subN (lookC (cb bs)))) → Calls Try.prog 8 #[x.val] V fun e W' => NAll V.heap.size (nAns (evT (subT (sig bs) t))) e W' ∧ Below V.heap.size V W') := fun V D S x hD h =>
      (eval_code h _ (sub_wl hsw hw) ca ga1 ga2).mono fun e W' k => ⟨num_all k.1, k.2⟩
    have HEF : Hid (∀ (V : World) (D : Nat) (S : Nat → Prop) (x : TV), D ≤ 4194304 → HoldsS D S V x.val ((foldC t).flatMap (subN (lookC (cb bs)))) → Calls Try.prog 8 #[x.val] V fun e W' => NAll V.heap.size (nAns (evT (subT (sig bs) t))) e W' ∧ Below V.heap.size V W') := fun V D S x hD h => by
      rw [← hev]
      exact (eval_code h _ (sub_wl hsw (fold_wl hw)) cf gb1 gb2).mono fun e W' k => ⟨num_all k.1, k.2⟩
    have HF1 : Hid ((foldC t).all okM = true) := hf1
    clear hokB hfine hw hf1 hf2 hokf ht1 ht2 ga1 ga2 gb1 gb2 hsc ca cf hsw hev r1 r2 r3
    generalize nAns (evT (subT (sig bs) t)) = ans at HEA HEF
    obtain ⟨am, ac, ae⟩ := ans
    simp only [NAll] at HEA HEF
    have bT4 := (unhide HT3).below hb4 (by omega)
    have hfo := HFO.out W4 hB4
    have c0 := bT4.c0
    have c1 := bT4.c1
    have c2 := bT4.c2
    have c3 := bT4.c3
    have HT4 := hide bT4
    clear bT4 HT3
    go_wp2_with fail
    refine hfo.mono ?_
    rintro e W5 ⟨f, rfl, hb5, hf⟩
    clear hfo c0 c1 c2 c3
    have s5 := hb5.size
    obtain ⟨W6, hW6, hb6, s6, bF6⟩ : ∃ W6, W5.alloc (.cells #[.int .i64 f.k, .int .i64 f.N, .string f.s, .slice f.a f.len f.cap] 24) = W6 ∧ Below W5.heap.size W5 W6 ∧ W6.heap.size = W5.heap.size + 1 ∧ BoxT W6 W5.heap.size f := ⟨_, rfl, (Below.refl _ _).alloc (Nat.le_refl _) _, by simp, BoxT.new W5 f⟩
    have hB6 : Below W.heap.size W W6 := (hB4.trans (hb5.mono (by omega))).trans (hb6.mono (by omega))
    have bT6 := ((unhide HT4).below hb5 (by omega)).below hb6 (by omega)
    have hf6 := hf.below hb6
    have hap := HAP.out W6 n t hB6 ((IsT.below hB6 HTT.out).mono hB6.size) HOK.out
    simp only [TV.val] at hap
    have c0 := bT6.c0
    have c1 := bT6.c1
    have c2 := bT6.c2
    have c3 := bT6.c3
    have HF6 := hide bF6
    clear bT6 bF6 HT4 hf hb5 hb6
    go_wp2_with fail
    try rw [hW6]
    refine hap.mono ?_
    rintro e W7 ⟨x, rfl, hb7, hx⟩
    clear hap hW6 c0 c1 c2 c3
    have s7 := hb7.size
    have hB7 : Below W.heap.size W W7 := hB6.trans (hb7.mono hB6.size)
    have hea := HEA.out W7 _ _ x (by omega) hx
    simp only [TV.val] at hea
    clear hx
    go_wp2_with fail
    refine hea.mono ?_
    rintro e W8 ⟨⟨q, rfl, hq⟩, hb8⟩
    clear hea
    have s8 := hb8.size
    have hB8 : Below W.heap.size W W8 := hB7.trans (hb8.mono hB7.size)
    obtain ⟨W9, hW9, hb9, s9, bQ9⟩ : ∃ W9, W8.alloc (.cells #[.int .i64 q.k, .int .i64 q.N, .string q.s, .slice q.a q.len q.cap] 24) = W9 ∧ Below W8.heap.size W8 W9 ∧ W9.heap.size = W8.heap.size + 1 ∧ BoxT W9 W8.heap.size q := ⟨_, rfl, (Below.refl _ _).alloc (Nat.le_refl _) _, by simp, BoxT.new W8 q⟩
    have hB9 : Below W.heap.size W W9 := hB8.trans (hb9.mono hB8.size)
    have bF9 := (((unhide HF6).below hb7 (by omega)).below hb8 (by omega)).below hb9 (by omega)
    have hf9 := ((hf6.below hb7).below hb8).below hb9
    have hq9 := hq.below hb9
    have hapf : Calls Try.prog 19 #[f.val, .slice la ll lc] W9 fun e W' => ∃ x : TV, e = .returned x.val ∧ Below W9.heap.size W9 W' ∧ HoldsS (n + (d + 1)) (Mix W.heap.size W9.heap.size) W' x.val ((foldC t).flatMap (subN (lookC (cb bs)))) := by
      obtain ⟨tf, h1, h2, -, h4⟩ := hf9 n (Nat.le_refl _)
      have h := HAP.out W9 n tf hB9 (h2 (by omega)) (by rw [okT_m, h4]; exact HF1.out)
      rw [h4, ← h1] at h
      exact h
    simp only [TV.val] at hapf
    have c0 := bF9.c0
    have c1 := bF9.c1
    have c2 := bF9.c2
    have c3 := bF9.c3
    have HQ9 := hide bQ9
    clear bF9 bQ9 HF6 hf6 hf9 hq
    go_wp2_with fail
    try rw [hW9]
    refine hapf.mono ?_
    rintro e X1 ⟨y, rfl, hx1, hy⟩
    clear hapf hW9 c0 c1 c2 c3
    have sx1 := hx1.size
    have hBX1 : Below W.heap.size W X1 := hB9.trans (hx1.mono hB9.size)
    have hef := HEF.out X1 _ _ y (by omega) hy
    simp only [TV.val] at hef
    clear hy
    go_wp2_with fail
    refine hef.mono ?_
    rintro e X2 ⟨⟨z, rfl, hz⟩, hx2⟩
    clear hef
    have sx2 := hx2.size
    obtain ⟨X3, hX3, hx3, sx3, bZ3⟩ : ∃ X3, X2.alloc (.cells #[.int .i64 z.k, .int .i64 z.N, .string z.s, .slice z.a z.len z.cap] 24) = X3 ∧ Below X2.heap.size X2 X3 ∧ X3.heap.size = X2.heap.size + 1 ∧ BoxT X3 X2.heap.size z := ⟨_, rfl, (Below.refl _ _).alloc (Nat.le_refl _) _, by simp, BoxT.new X2 z⟩
    have hBX3 : Below W.heap.size W X3 := (hBX1.trans (hx2.mono hBX1.size)).trans (hx3.mono (by omega))
    have bQ3 := (((unhide HQ9).below hx1 (by omega)).below hx2 (by omega)).below hx3 (by omega)
    have hS := same_holds (((hq9.below hx1).below hx2).below hx3) (hz.below hx3)
    simp only [decide_true] at hS
    have q0 := bQ3.c0
    have q1 := bQ3.c1
    have q2 := bQ3.c2
    have q3 := bQ3.c3
    have z0 := bZ3.c0
    have z1 := bZ3.c1
    have z2 := bZ3.c2
    have z3 := bZ3.c3
    clear bQ3 bZ3 HQ9 hq9 hz
    go_wp2_with fail
    try rw [hX3]
    refine hS.mono ?_
    rintro e X4 ⟨rfl, hx4⟩
    have HB : Hid (Below W.heap.size W X4) := hBX3.trans (hx4.mono hBX3.size)
    clear hS hX3 q0 q1 q2 q3 z0 z1 z2 z3
    go_wp2_with fail
    all_goals go_ret
    all_goals exact ⟨rfl, HB.out⟩
  · have hr1 : (r == 0) = false := by simp [hr]
    have hr2 : (r != 0) = true := by simp [hr]
    have HB : Hid (Below W.heap.size W W4) := hB4
    clear hr r1 r2 r3
    go_wp2
    all_goals go_ret
    all_goals exact ⟨rfl, HB.out⟩
theorem arithFolds_any {n d : Nat} (t : Tm n) (bs : List (Int × Tm d)) (la : Option Addr) (ll lc : Nat) (W : World) (hT : IsT W.heap.size W t) (hL : IsL W.heap.size W la ll bs) (hnum : numsT t) (hbn : ∀ p ∈ bs, numsT p.2) (hn40 : n ≤ 1048576) (hd40 : d ≤ 1048576) :
    Calls Try.prog 5 #[t.tv.val, .slice la ll lc] W fun e W' => e = .returned (.bool true) ∧ Below W.heap.size W W' := by
  cases hok : okT t with
  | false => exact folds_bad t la ll lc W hT hok
  | true => exact folds_main t bs la ll lc W hT hL hok hnum hbn hn40 hd40
end Go.Proofs.Ytffbhinpmlcopab

