import Derived.Test.YtffbhinpmlcopabArW
import Derived.Test.YtffbhinpmlcopabArXa
import Derived.Test.YtffbhinpmlcopabArXeq
import Derived.Test.YtffbhinpmlcopabArXne
import Derived.Test.YtffbhinpmlcopabArXlt
import Derived.Test.YtffbhinpmlcopabArXgt
import Derived.Test.YtffbhinpmlcopabArXle
import Derived.Test.YtffbhinpmlcopabArXge
import Derived.Test.YtffbhinpmlcopabG
/- The law ArithHolds. -/
namespace Go.Proofs.Ytffbhinpmlcopab
open Go.RowKit Go.Shelf

theorem rholds_arg_any {n m : Nat} (s : ByteArray) (x : Tm n) (y : Tm m) (W : World) (hX : IsT W.heap.size W x) (hY : IsT W.heap.size W y) (okx : okT x = true) (oky : okT y = true) (hr : relOf s.toList = none) :
    Calls Try.prog 16 #[.string s, x.tv.val, y.tv.val] W fun e W' => e = .returned (.tuple #[.bool false, noTerm.val, .int .i64 1]) ∧ Below W.heap.size W W' := by
  have key : ∀ l : List UInt8, (relOf l).isSome = true → (s.toList == l) = false := fun l hl => by
    simp only [beq_eq_false_iff_ne, ne_eq]
    intro e
    rw [← e, hr] at hl
    cases hl
  exact rholds_arg s x y W hX hY okx oky (key _ rfl) (key _ rfl) (key _ rfl) (key _ rfl) (key _ rfl) (key _ rfl)
theorem rholds_ok {n m : Nat} (s : ByteArray) (x : Tm n) (y : Tm m) (W : World) (hX : IsT W.heap.size W x) (hY : IsT W.heap.size W y) (okx : okT x = true) (oky : okT y = true) (nx : numsT x) (ny : numsT y) (g : Int → Int → Bool) (hr : relOf s.toList = some g) :
    Calls Try.prog 16 #[.string s, x.tv.val, y.tv.val] W fun e W' => HSays W.heap.size (relR g (evT x) (evT y)) e W' ∧ Below W.heap.size W W' := by
  by_cases h1 : s.toList = [61, 58, 61]
  · rw [h1] at hr
    cases (show some _ = some g from hr)
    exact rholds_eq s x y W hX hY okx oky nx ny h1
  by_cases h2 : s.toList = [61, 92, 61]
  · rw [h2] at hr
    cases (show some _ = some g from hr)
    exact rholds_ne s x y W hX hY okx oky nx ny h2
  by_cases h3 : s.toList = [60]
  · rw [h3] at hr
    cases (show some _ = some g from hr)
    exact rholds_lt s x y W hX hY okx oky nx ny h3
  by_cases h4 : s.toList = [62]
  · rw [h4] at hr
    cases (show some _ = some g from hr)
    exact rholds_gt s x y W hX hY okx oky nx ny h4
  by_cases h5 : s.toList = [61, 60]
  · rw [h5] at hr
    cases (show some _ = some g from hr)
    exact rholds_le s x y W hX hY okx oky nx ny h5
  by_cases h6 : s.toList = [62, 61]
  · rw [h6] at hr
    cases (show some _ = some g from hr)
    exact rholds_ge s x y W hX hY okx oky nx ny h6
  exfalso
  unfold relOf at hr
  simp [h1, h2, h3, h4, h5, h6] at hr

def fromRel : Except (List Nd) Bool → Bool × List Nd × Int
  | .ok b => (b, noC, 0)
  | .error c => (false, c, 14)
/-- What Holds answers, as it is said by both. -/
def hAns {n m : Nat} (s : ByteArray) (x : Tm n) (y : Tm m) : Bool × List Nd × Int :=
  if okT x = true ∧ okT y = true then
    match relOf s.toList with
    | none => (false, noC, 1)
    | some g => fromRel (relR g (evT x) (evT y))
  else (false, noC, 2)
def HAll (lo : Nat) (r : Bool × List Nd × Int) (e : Ending) (W' : World) : Prop :=
  ∃ t : TV, e = .returned (.tuple #[.bool r.1, t.val, .int .i64 r.2.2]) ∧ HoldsT 3 lo W' t.val r.2.1
theorem says_all {lo : Nat} {r : Except (List Nd) Bool} {e : Ending} {W' : World} (h : HSays lo r e W') : HAll lo (fromRel r) e W' := by
  cases r with
  | ok b => exact ⟨noTerm, h, no_holds 3 lo (by omega) W'⟩
  | error c => exact h
theorem aholds_any {n m : Nat} (s : ByteArray) (x : Tm n) (y : Tm m) (W : World) (hX : IsT W.heap.size W x) (hY : IsT W.heap.size W y) (nx : numsT x) (ny : numsT y) :
    Calls Try.prog 15 #[.string s, x.tv.val, y.tv.val] W fun e W' => HAll W.heap.size (hAns s x y) e W' ∧ Below W.heap.size W W' := by
  unfold hAns
  cases okx : okT x with
  | false =>
    rw [if_neg (by simp)]
    exact (aholds_bad1 s x y W hX okx).mono fun e W' h => ⟨⟨noTerm, h.1, no_holds 3 _ (by omega) W'⟩, h.2⟩
  | true =>
    cases oky : okT y with
    | false =>
      rw [if_neg (by simp)]
      exact (aholds_bad2 s x y W hX hY okx oky).mono fun e W' h => ⟨⟨noTerm, h.1, no_holds 3 _ (by omega) W'⟩, h.2⟩
    | true =>
      rw [if_pos ⟨rfl, rfl⟩]
      cases hr : relOf s.toList with
      | none => exact (aholds_arg s x y W hX hY okx oky hr).mono fun e W' h => ⟨⟨noTerm, h.1, no_holds 3 _ (by omega) W'⟩, h.2⟩
      | some g => exact (aholds_ok s x y W hX hY okx oky nx ny g hr).mono fun e W' h => ⟨says_all h.1, h.2⟩
theorem rholds_any {n m : Nat} (s : ByteArray) (x : Tm n) (y : Tm m) (W : World) (hX : IsT W.heap.size W x) (hY : IsT W.heap.size W y) (nx : numsT x) (ny : numsT y) :
    Calls Try.prog 16 #[.string s, x.tv.val, y.tv.val] W fun e W' => HAll W.heap.size (hAns s x y) e W' ∧ Below W.heap.size W W' := by
  unfold hAns
  cases okx : okT x with
  | false =>
    rw [if_neg (by simp)]
    exact (rholds_bad1 s x y W hX okx).mono fun e W' h => ⟨⟨noTerm, h.1, no_holds 3 _ (by omega) W'⟩, h.2⟩
  | true =>
    cases oky : okT y with
    | false =>
      rw [if_neg (by simp)]
      exact (rholds_bad2 s x y W hX hY okx oky).mono fun e W' h => ⟨⟨noTerm, h.1, no_holds 3 _ (by omega) W'⟩, h.2⟩
    | true =>
      rw [if_pos ⟨rfl, rfl⟩]
      cases hr : relOf s.toList with
      | none => exact (rholds_arg_any s x y W hX hY okx oky hr).mono fun e W' h => ⟨⟨noTerm, h.1, no_holds 3 _ (by omega) W'⟩, h.2⟩
      | some g => exact (rholds_ok s x y W hX hY okx oky nx ny g hr).mono fun e W' h => ⟨says_all h.1, h.2⟩
set_option maxRecDepth 100000 in
set_option maxHeartbeats 4000000 in
theorem arithHolds_any {n m : Nat} (s : ByteArray) (x : Tm n) (y : Tm m) (W : World) (hX : IsT W.heap.size W x) (hY : IsT W.heap.size W y) (nx : numsT x) (ny : numsT y) :
    Calls Try.prog 4 #[.string s, x.tv.val, y.tv.val] W fun e W' => e = .returned (.bool true) ∧ Below W.heap.size W W' := by
  obtain ⟨W2, hW2, hb2, hs2, bX, bY⟩ := box2_only W x.tv y.tv
  have hA := aholds_any s x y W2 ((hX.below hb2).mono (by omega)) ((hY.below hb2).mono (by omega)) nx ny
  have HR : Hid (∀ V, Below W.heap.size W V → _) := fun V (hb : Below W.heap.size W V) => rholds_any s x y V ((hX.below hb).mono hb.size) ((hY.below hb).mono hb.size) nx ny
  generalize hAns s x y = r at hA HR
  obtain ⟨rb, rc, re⟩ := r
  simp only [TV.val, HAll] at hA HR ⊢
  clear hX hY nx ny
  have x0 := bX.c0
  have x1 := bX.c1
  have x2 := bX.c2
  have x3 := bX.c3
  have y0 := bY.c0
  have y1 := bY.c1
  have y2 := bY.c2
  have y3 := bY.c3
  go_enter Try.func4, Try.ntmps4
  go_wp2_with fail
  refine hA.mono ?_
  rintro e W3 ⟨⟨t, rfl, ht⟩, hb3⟩
  try rw [hW2] at hb3
  clear hA hW2 x0 x1 x2 x3 y0 y1 y2 y3
  have s3 := hb3.size
  obtain ⟨W4, hW4, hb4, bT⟩ : ∃ W4, W3.alloc (.cells #[.int .i64 t.k, .int .i64 t.N, .string t.s, .slice t.a t.len t.cap] 24) = W4 ∧ Below W3.heap.size W3 W4 ∧ BoxT W4 W3.heap.size t := ⟨_, rfl, (Below.refl _ _).alloc (Nat.le_refl _) _, BoxT.new W3 t⟩
  have s4 : W4.heap.size = W3.heap.size + 1 := by rw [← hW4]; simp
  have hB4 : Below W.heap.size W W4 := (hb2.trans (hb3.mono (by omega))).trans (hb4.mono (by omega))
  have bX4 := (bX.below hb3 (by omega)).below hb4 (by omega)
  have bY4 := (bY.below hb3 (by omega)).below hb4 (by omega)
  have x0 := bX4.c0
  have x1 := bX4.c1
  have x2 := bX4.c2
  have x3 := bX4.c3
  have y0 := bY4.c0
  have y1 := bY4.c1
  have y2 := bY4.c2
  have y3 := bY4.c3
  have hR := HR.out W4 hB4
  have ht4 := ht.below hb4
  clear HR bX bY bX4 bY4 ht hb3 hb4
  go_wp2_with fail
  try rw [hW4]
  refine hR.mono ?_
  rintro e W5 ⟨⟨u, rfl, hu⟩, hb5⟩
  clear hR hW4 x0 x1 x2 x3 y0 y1 y2 y3
  have s5 := hb5.size
  obtain ⟨W6, hW6, hb6, bU⟩ : ∃ W6, W5.alloc (.cells #[.int .i64 u.k, .int .i64 u.N, .string u.s, .slice u.a u.len u.cap] 24) = W6 ∧ Below W5.heap.size W5 W6 ∧ BoxT W6 W5.heap.size u := ⟨_, rfl, (Below.refl _ _).alloc (Nat.le_refl _) _, BoxT.new W5 u⟩
  have hB6 : Below W.heap.size W W6 := (hB4.trans (hb5.mono (by omega))).trans (hb6.mono (by omega))
  have bT6 := (bT.below hb5 (by omega)).below hb6 (by omega)
  have hS := same_holds ((ht4.below hb5).below hb6) (hu.below hb6)
  simp only [decide_true] at hS
  have x0 := bT6.c0
  have x1 := bT6.c1
  have x2 := bT6.c2
  have x3 := bT6.c3
  have y0 := bU.c0
  have y1 := bU.c1
  have y2 := bU.c2
  have y3 := bU.c3
  clear bT bT6 bU ht4 hu hb5 hb6
  go_wp2_with fail
  try rw [hW6]
  refine hS.mono ?_
  rintro e W7 ⟨rfl, hb7⟩
  have hB7 : Below W.heap.size W W7 := hB6.trans (hb7.mono hB6.size)
  clear hS hW6
  go_wp2_with fail
  all_goals go_ret
  all_goals exact ⟨rfl, hB7⟩
end Go.Proofs.Ytffbhinpmlcopab

