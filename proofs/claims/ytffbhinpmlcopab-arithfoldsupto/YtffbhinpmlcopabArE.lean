import Derived.Test.YtffbhinpmlcopabArD
import Derived.Test.YtffbhinpmlcopabHc
/- Balls: atoms, integers and compounds that arith (and hornref) makes; notEvaluable. -/
namespace Go.Proofs.Ytffbhinpmlcopab
open Go.RowKit Go.Shelf

/-- not_evaluable(Name / K). -/
def notC (s : List UInt8) (n : Nat) : List Nd := [(4, 0, [110, 111, 116, 95, 101, 118, 97, 108, 117, 97, 98, 108, 101], 1), (4, 0, [47], 2), (3, 0, s, 0), (2, n, [], 0)]
theorem slashL : (⟨#[47]⟩ : ByteArray).toList = [47] := by decide +kernel
theorem notL : (⟨#[110, 111, 116, 95, 101, 118, 97, 108, 117, 97, 98, 108, 101]⟩ : ByteArray).toList = [110, 111, 116, 95, 101, 118, 97, 108, 117, 97, 98, 108, 101] := by decide +kernel
set_option maxHeartbeats 400000 in
theorem aatom_any (s : ByteArray) (w : World) : Calls Try.prog 60 #[.string s] w fun e W' => e = .returned (atomV s).val ∧ Below w.heap.size w W' := by
  go_enter Try.func60, Try.ntmps60
  go_wp2
  refine bodyPost_ret (v := (atomV s).val) (by simp [results, Try.results60, go_sem, atomV, TV.val]) rfl ⟨rfl, (Below.refl _ _).alloc (Nat.le_refl _) _⟩
set_option maxHeartbeats 400000 in
theorem ainteger_any (n : Int) (w : World) : Calls Try.prog 64 #[.int .i64 n] w fun e W' => e = .returned (intV n).val ∧ Below w.heap.size w W' := by
  go_enter Try.func64, Try.ntmps64
  go_wp2
  refine bodyPost_ret (v := (intV n).val) (by simp [results, Try.results64, go_sem, intV, TV.val]) rfl ⟨rfl, (Below.refl _ _).alloc (Nat.le_refl _) _⟩
set_option maxHeartbeats 400000 in
theorem acompound_any (s : ByteArray) (a : Option Addr) (len cap : Nat) (w : World) : Calls Try.prog 92 #[.string s, .slice a len cap] w fun e W' => e = .returned (compV s a len cap).val ∧ Below w.heap.size w W' := by
  go_enter Try.func92, Try.ntmps92
  go_wp2
  refine bodyPost_ret (v := (compV s a len cap).val) (by simp [results, Try.results92, go_sem, compV, TV.val]) rfl ⟨rfl, (Below.refl _ _).alloc (Nat.le_refl _) _⟩
set_option maxRecDepth 100000 in
set_option maxHeartbeats 1000000 in
theorem notEvaluable_any (s : ByteArray) (hs : s.size ≤ 9223372036854775807) (n : Nat) (w : World) :
    Calls Try.prog 62 #[.string s, .int .i64 (n : Int)] w fun e W' => ∃ x : TV, e = .returned x.val ∧ Below w.heap.size w W' ∧ HoldsT 3 w.heap.size W' x.val (notC s.toList n) := by
  have ha := aatom_any s
  have hi := ainteger_any (n : Int)
  have hc := acompound_any
  simp only [atomV, intV, compV, TV.val] at ha hi hc
  go_enter Try.func62, Try.ntmps62
  go_wp2_with fail
  refine (ha _).mono ?_
  rintro e W1 ⟨rfl, hb1⟩
  go_wp2_with fail
  refine (hi _).mono ?_
  rintro e W2 ⟨rfl, hb2⟩
  go_wp2_with fail
  refine (hc _ _ _ _ _).mono ?_
  rintro e W3 ⟨rfl, hb3⟩
  go_wp2_with fail
  refine (hc _ _ _ _ _).mono ?_
  rintro e W4 ⟨rfl, hb4⟩
  clear ha hi hc
  have hn1 := World.alloc_heap_new W2 (.cells #[.int .i64 3, .int .i64 0, .string s, .slice none 0 0, .int .i64 2, .int .i64 (n : Int), .string ⟨#[]⟩, .slice none 0 0] 24)
  have hn2 := World.alloc_heap_new W3 (.cells #[.int .i64 4, .int .i64 0, .string ⟨#[47]⟩, .slice (some ⟨W2.heap.size, 0, none⟩) 2 2] 24)
  have hn0 := World.alloc_heap_new w (.cells #[.int .i64 0, .int .i64 0, .string ⟨#[]⟩, .slice none 0 0] 24)
  have s0 := hb1.size
  have s1 := hb2.size
  have s2 := hb3.size
  have s3 := hb4.size
  simp only [World.size_alloc] at s0 s1 s2 s3
  have b24 : Below (W2.heap.size + 1) (W2.alloc (.cells #[.int .i64 3, .int .i64 0, .string s, .slice none 0 0, .int .i64 2, .int .i64 (n : Int), .string ⟨#[]⟩, .slice none 0 0] 24)) W4 :=
    ((hb3.mono (by simp)).trans (((Below.refl _ W3).alloc (Nat.le_refl _) _).mono (by omega))).trans (hb4.mono (by simp; omega))
  have hc1 : W4.heap[W2.heap.size]? = _ := (b24.block _ (by omega)).trans hn1
  have hc2 : W4.heap[W3.heap.size]? = _ := (hb4.block _ (by simp)).trans hn2
  have b02 : Below (w.heap.size + 1) (w.alloc (.cells #[.int .i64 0, .int .i64 0, .string ⟨#[]⟩, .slice none 0 0] 24)) W2 := (hb1.mono (by simp)).trans (hb2.mono (by omega))
  have b04 : Below (w.heap.size + 1) (w.alloc (.cells #[.int .i64 0, .int .i64 0, .string ⟨#[]⟩, .slice none 0 0] 24)) W4 := (b02.trans (((Below.refl _ W2).alloc (Nat.le_refl _) _).mono (by omega))).trans (b24.mono (by omega))
  have hc0 : W4.heap[w.heap.size]? = _ := (b04.block _ (by omega)).trans hn0
  have hw4 : Below w.heap.size w W4 := ((Below.refl _ w).alloc (Nat.le_refl _) _).trans (b04.mono (by omega))
  have h2 := holds_two (lo := w.heap.size + 1) (atom_holds s hs _ W4) (int_holds (n : Int) _ W4) (by omega) hc1 ⟨#[47]⟩ (by show (1 : Nat) ≤ _; omega) rfl rfl
  have h3 := holds_one h2 (by omega) hc2 ⟨#[110, 111, 116, 95, 101, 118, 97, 108, 117, 97, 98, 108, 101]⟩ (by show (13 : Nat) ≤ _; omega) (fun t e1 e2 e3 => by rw [blks_two e2 (by rw [e1]; rfl) (by rw [e1]; rfl) (by rw [e3]; rfl)]; simp; omega)
  rw [slashL, notL] at h3
  obtain ⟨⟨z0, z1, z2, z3⟩, y0, y1, y2, y3⟩ := zbox_kept hc0
  have HF : Hid (Below w.heap.size w (set4 W4 w.heap.size 0 (compV ⟨#[110, 111, 116, 95, 101, 118, 97, 108, 117, 97, 98, 108, 101]⟩ (some ⟨W3.heap.size, 0, none⟩) 1 1)) ∧ HoldsT 3 w.heap.size (set4 W4 w.heap.size 0 (compV ⟨#[110, 111, 116, 95, 101, 118, 97, 108, 117, 97, 98, 108, 101]⟩ (some ⟨W3.heap.size, 0, none⟩) 1 1)) (compV ⟨#[110, 111, 116, 95, 101, 118, 97, 108, 117, 97, 98, 108, 101]⟩ (some ⟨W3.heap.size, 0, none⟩) 1 1).val (notC s.toList n)) :=
    ⟨set4_below hw4 (Nat.le_refl _) 0 _, (holds_set4 h3 (by omega) 0 _).mono (Nat.le_refl _) (by omega)⟩
  clear h2 h3 hc0 hc1 hc2 hn0 hn1 hn2 b24 b02 b04 hb1 hb2 hb3 hb4
  go_wp2_with fail
  exact bodyPost_ret (v := (compV ⟨#[110, 111, 116, 95, 101, 118, 97, 108, 117, 97, 98, 108, 101]⟩ (some ⟨W3.heap.size, 0, none⟩) 1 1).val) (by simp [results, Try.results62, go_sem, TV.val, compV, z0, z1, z2, z3]) rfl ⟨_, rfl, HF.out⟩
end Go.Proofs.Ytffbhinpmlcopab

