import Derived.Test.YtffbhinpmlcopabArT
import Derived.Test.YtffbhinpmlcopabArS
/- hornref.Eval: a variable, an integer, what can't be evaluated. -/
namespace Go.Proofs.Ytffbhinpmlcopab
open Go.RowKit Go.Shelf

/-- What hornref.Eval answers. -/
def RSays (lo : Nat) (r : Except (List Nd) Int) (e : Ending) (W' : World) : Prop :=
  match r with
  | .ok n => e = .returned (.tuple #[.int .i64 n, noTerm.val, .bool true])
  | .error c => ∃ x : TV, e = .returned (.tuple #[.int .i64 0, x.val, .bool false]) ∧ HoldsT 3 lo W' x.val c

set_option maxRecDepth 100000 in
set_option maxHeartbeats 1000000 in
theorem reval_int (N : Int) (s : ByteArray) (a : Option Addr) (len cap : Nat) (W : World) :
    Calls Try.prog 14 #[.agg #[.int .i64 2, .int .i64 N, .string s, .slice a len cap]] W fun e W' => e = .returned (.tuple #[.int .i64 N, noTerm.val, .bool true]) ∧ Below W.heap.size W W' := by
  go_enter Try.func14, Try.ntmps14
  go_wp2
  exact bodyPost_ret (v := .tuple #[.int .i64 N, noTerm.val, .bool true]) (by simp [results, Try.results14, go_sem, TV.val, noTerm]) rfl ⟨rfl, ((Below.refl _ _).alloc (Nat.le_refl _) _).alloc (by simp) _⟩

set_option maxRecDepth 100000 in
set_option maxHeartbeats 1000000 in
theorem reval_var (N : Int) (s : ByteArray) (a : Option Addr) (len cap : Nat) (W : World) :
    Calls Try.prog 14 #[.agg #[.int .i64 1, .int .i64 N, .string s, .slice a len cap]] W fun e W' => RSays W.heap.size (.error (atomC unbL)) e W' ∧ Below W.heap.size W W' := by
  have ha := ratom_any ⟨#[117, 110, 98, 111, 117, 110, 100]⟩
  simp only [atomV, TV.val] at ha
  obtain ⟨W2, hW2, hb2, hs2, bT, hz⟩ := box_zero W ⟨1, N, s, a, len, cap⟩
  simp only at hW2
  have c0 := bT.c0
  simp only at c0
  go_enter Try.func14, Try.ntmps14
  go_wp2_with fail
  refine (ha _).mono ?_
  rintro e W3 ⟨rfl, hb3⟩
  clear ha c0 bT
  try rw [hW2] at hb3
  clear hW2
  have hz3 : W3.heap[W.heap.size + 1]? = _ := (hb3.block _ (by omega)).trans hz
  obtain ⟨⟨z0, z1, z2, z3⟩, y0, y1, y2, y3⟩ := zbox_kept hz3
  have HF : Hid (HoldsT 3 W.heap.size (set4 W3 (W.heap.size + 1) 0 (atomV ⟨#[117, 110, 98, 111, 117, 110, 100]⟩)) (atomV ⟨#[117, 110, 98, 111, 117, 110, 100]⟩).val (atomC unbL) ∧ Below W.heap.size W (set4 W3 (W.heap.size + 1) 0 (atomV ⟨#[117, 110, 98, 111, 117, 110, 100]⟩))) := by
    refine ⟨?_, set4_below (hb2.trans (hb3.mono (by omega))) (by omega) 0 _⟩
    have h := (atom_holds ⟨#[117, 110, 98, 111, 117, 110, 100]⟩ (by decide) W.heap.size (set4 W3 (W.heap.size + 1) 0 (atomV ⟨#[117, 110, 98, 111, 117, 110, 100]⟩))).mono (D' := 3) (by omega) (Nat.le_refl _)
    rw [unbL_eq] at h
    exact h
  clear hz hz3 hb3 hb2 hs2
  go_wp2_with fail
  exact bodyPost_ret (v := .tuple #[.int .i64 0, (atomV ⟨#[117, 110, 98, 111, 117, 110, 100]⟩).val, .bool false]) (by simp [results, Try.results14, go_sem, TV.val, atomV, z0, z1, z2, z3]) rfl ⟨⟨_, rfl, HF.out.1⟩, HF.out.2⟩

set_option maxRecDepth 100000 in
set_option maxHeartbeats 1000000 in
theorem reval_none (k N : Int) (s : ByteArray) (a : Option Addr) (len cap : Nat) (hk : k = 3 ∨ k = 4) (hs : s.size ≤ 9223372036854775807) (ho : opOf s.toList len = none) (W : World) :
    Calls Try.prog 14 #[.agg #[.int .i64 k, .int .i64 N, .string s, .slice a len cap]] W fun e W' => RSays W.heap.size (.error (notC s.toList len)) e W' ∧ Below W.heap.size W W' := by
  have hf := revaluable_any s len
  rw [ho] at hf
  simp only [Option.isSome] at hf
  clear ho
  have hne := fun W => rmissing_any ⟨k, N, s, a, len, cap⟩ hs W
  simp only [TV.val] at hne
  obtain ⟨W2, hW2, hb2, hs2, bT, hz⟩ := box_zero W ⟨k, N, s, a, len, cap⟩
  simp only at hW2
  have hk1 : (k == 2) = false := by rcases hk with rfl | rfl <;> rfl
  have hk2 : (k == 1) = false := by rcases hk with rfl | rfl <;> rfl
  clear hk
  have c0 := bT.c0
  have c1 := bT.c1
  have c2 := bT.c2
  have c3 := bT.c3
  simp only at c0 c1 c2 c3
  go_enter Try.func14, Try.ntmps14
  go_wp2_with fail
  refine (hf _).mono ?_
  rintro e W3 ⟨rfl, rfl⟩
  try rw [hW2]
  clear hf hW2
  go_wp2_with fail
  refine (hne _).mono ?_
  rintro e W4 ⟨x, rfl, hb4, hx⟩
  have hz4 : W4.heap[W.heap.size + 1]? = _ := (hb4.block _ (by omega)).trans hz
  obtain ⟨⟨z0, z1, z2, z3⟩, y0, y1, y2, y3⟩ := zbox_kept hz4
  have hbt : Below W.heap.size W W4 := hb2.trans (hb4.mono (by omega))
  have HF : Hid (HoldsT 3 W.heap.size (set4 W4 (W.heap.size + 1) 0 x) x.val (notC s.toList len) ∧ Below W.heap.size W (set4 W4 (W.heap.size + 1) 0 x)) :=
    ⟨(holds_set4 hx (by omega) 0 _).mono (Nat.le_refl _) (by omega), set4_below hbt (by omega) 0 _⟩
  clear hne c0 c1 c2 c3 bT hz hz4 hb4 hx hbt
  go_wp2_with fail
  exact bodyPost_ret (v := .tuple #[.int .i64 0, x.val, .bool false]) (by simp [results, Try.results14, go_sem, TV.val, z0, z1, z2, z3]) rfl ⟨⟨_, rfl, HF.out.1⟩, HF.out.2⟩
end Go.Proofs.Ytffbhinpmlcopab

