import Derived.Test.YtmgcojhmopcamaaArD
import Derived.Test.YtmgcojhmopcamaaK
import Derived.Test.YtmgcojhmopcamaaF
/- Balls: atoms, integers and compounds that arith (and hornref) makes; notEvaluable. -/
namespace Go.Proofs.Ytmgcojhmopcamaa
open Go.RowKit Go.Shelf

def atomV (s : ByteArray) : TV := ⟨3, 0, s, none, 0, 0⟩
def intV (n : Int) : TV := ⟨2, n, ⟨#[]⟩, none, 0, 0⟩
def compV (s : ByteArray) (a : Option Addr) (len cap : Nat) : TV := ⟨4, 0, s, a, len, cap⟩
def noTerm : TV := ⟨0, 0, ⟨#[]⟩, none, 0, 0⟩
def atomC (s : List UInt8) : List Nd := [(3, 0, s, 0)]
def intC (n : Int) : List Nd := [(2, n, [], 0)]
/-- not_evaluable(Name / K). -/
def notC (s : List UInt8) (n : Nat) : List Nd := [(4, 0, [110, 111, 116, 95, 101, 118, 97, 108, 117, 97, 98, 108, 101], 1), (4, 0, [47], 2), (3, 0, s, 0), (2, n, [], 0)]
theorem tv_inj {x y : TV} (h : x.val = y.val) : x = y := by
  cases x; cases y
  simp [TV.val] at h
  simp_all
theorem atom_holds (s : ByteArray) (hs : s.size ≤ 9223372036854775807) (lo : Nat) (W : World) : HoldsT 1 lo W (atomV s).val (atomC s.toList) := holds_leaf (atomV s) rfl rfl rfl hs lo W
theorem emptyL : (⟨#[]⟩ : ByteArray).toList = [] := by decide +kernel
theorem slashL : (⟨#[47]⟩ : ByteArray).toList = [47] := by decide +kernel
theorem notL : (⟨#[110, 111, 116, 95, 101, 118, 97, 108, 117, 97, 98, 108, 101]⟩ : ByteArray).toList = [110, 111, 116, 95, 101, 118, 97, 108, 117, 97, 98, 108, 101] := by decide +kernel
theorem int_holds (n : Int) (lo : Nat) (W : World) : HoldsT 1 lo W (intV n).val (intC n) := by
  have h := holds_leaf (intV n) rfl rfl rfl (by show (0 : Nat) ≤ _; omega) lo W
  have e : (intV n).nd = (2, n, [], 0) := by simp [TV.nd, intV]
  rw [e] at h
  exact h

theorem holds_one {D lo : Nat} {W : World} {x : TV} {cx : List Nd} (hx : HoldsT D lo W x.val cx) {b : Nat} (hlo : lo ≤ b)
    (hb : W.heap[b]? = some (.cells #[.int .i64 x.k, .int .i64 x.N, .string x.s, .slice x.a x.len x.cap] 24 (0, 0))) (s : ByteArray) (hs : s.size ≤ 9223372036854775807) :
    HoldsT (D + 1) lo W (compV s (some ⟨b, 0, none⟩) 1 1).val ((4, 0, s.toList, 1) :: cx) := fun m hm => by
  obtain ⟨M, rfl⟩ : ∃ M, m = M + 1 := ⟨m - 1, by omega⟩
  obtain ⟨t, h1, h2, h3, h4⟩ := hx M (by omega)
  have hxt := tv_inj h1
  have hlt := (Array.getElem?_eq_some_iff.1 hb).1
  refine ⟨((compV s (some ⟨b, 0, none⟩) 1 1, [t]) : TV × List (Tm M)), rfl, ⟨rfl, by simp [Tm.tv, compV], hs, .inr ⟨b, 0, rfl, hlt, fun j u hu => ?_⟩⟩, ⟨⟨.inr ⟨b, 0, rfl, hlo⟩, fun u hu => ?_⟩, ⟨.inr ⟨b, _, hlo, rfl, rfl, hb, rfl⟩, fun u hu => ?_⟩⟩, ?_⟩
  · have hj : j = 0 ∧ u = t := by
      match j, hu with
      | 0, hu => exact ⟨rfl, by simpa [Tm.kids] using hu.symm⟩
      | k + 1, hu => simp [Tm.kids] at hu
    obtain ⟨rfl, rfl⟩ := hj
    refine ⟨?_, h2⟩
    rw [← hxt]
    refine ⟨?_, ?_, ?_, ?_⟩ <;> simp [World.cell?, hb]
  · have : u = t := by simpa [Tm.kids] using hu
    subst this
    exact h3.new
  · have : u = t := by simpa [Tm.kids] using hu
    subst this
    exact h3.wh
  · rw [code_succ]
    simp [h4, TV.nd, compV]
theorem holds_two {D lo : Nat} {W : World} {x y : TV} {cx cy : List Nd} (hx : HoldsT D lo W x.val cx) (hy : HoldsT D lo W y.val cy) {b : Nat} (hlo : lo ≤ b)
    (hb : W.heap[b]? = some (.cells #[.int .i64 x.k, .int .i64 x.N, .string x.s, .slice x.a x.len x.cap, .int .i64 y.k, .int .i64 y.N, .string y.s, .slice y.a y.len y.cap] 24 (0, 0))) (s : ByteArray) (hs : s.size ≤ 9223372036854775807) :
    HoldsT (D + 1) lo W (compV s (some ⟨b, 0, none⟩) 2 2).val ((4, 0, s.toList, 2) :: (cx ++ cy)) := fun m hm => by
  obtain ⟨M, rfl⟩ : ∃ M, m = M + 1 := ⟨m - 1, by omega⟩
  obtain ⟨t, h1, h2, h3, h4⟩ := hx M (by omega)
  obtain ⟨u, k1, k2, k3, k4⟩ := hy M (by omega)
  have hxt := tv_inj h1
  have hyt := tv_inj k1
  have hlt := (Array.getElem?_eq_some_iff.1 hb).1
  refine ⟨((compV s (some ⟨b, 0, none⟩) 2 2, [t, u]) : TV × List (Tm M)), rfl, ⟨rfl, by simp [Tm.tv, compV], hs, .inr ⟨b, 0, rfl, hlt, fun j v hv => ?_⟩⟩, ⟨⟨.inr ⟨b, 0, rfl, hlo⟩, fun v hv => ?_⟩, ⟨.inr ⟨b, _, hlo, rfl, rfl, hb, rfl⟩, fun v hv => ?_⟩⟩, ?_⟩
  · have hj : (j = 0 ∧ v = t) ∨ (j = 1 ∧ v = u) := by
      match j, hv with
      | 0, hv => exact .inl ⟨rfl, by simpa [Tm.kids] using hv.symm⟩
      | 1, hv => exact .inr ⟨rfl, by simpa [Tm.kids] using hv.symm⟩
      | k + 2, hv => simp [Tm.kids] at hv
    rcases hj with ⟨rfl, rfl⟩ | ⟨rfl, rfl⟩
    · refine ⟨?_, h2⟩
      rw [← hxt]
      refine ⟨?_, ?_, ?_, ?_⟩ <;> simp [World.cell?, hb]
    · refine ⟨?_, k2⟩
      rw [← hyt]
      refine ⟨?_, ?_, ?_, ?_⟩ <;> simp [World.cell?, hb]
  · have : v = t ∨ v = u := by simpa [Tm.kids] using hv
    rcases this with rfl | rfl
    · exact h3.new
    · exact k3.new
  · have : v = t ∨ v = u := by simpa [Tm.kids] using hv
    rcases this with rfl | rfl
    · exact h3.wh
    · exact k3.wh
  · rw [code_succ]
    simp [h4, k4, TV.nd, compV]

set_option maxHeartbeats 400000 in
theorem aatom_any (s : ByteArray) (w : World) : Calls Try.prog 32 #[.string s] w fun e W' => e = .returned (atomV s).val ∧ Below w.heap.size w W' := by
  go_enter Try.func32, Try.ntmps32
  go_wp2
  refine bodyPost_ret (v := (atomV s).val) (by simp [results, Try.results32, go_sem, atomV, TV.val]) rfl ⟨rfl, (Below.refl _ _).alloc (Nat.le_refl _) _⟩
set_option maxHeartbeats 400000 in
theorem ainteger_any (n : Int) (w : World) : Calls Try.prog 36 #[.int .i64 n] w fun e W' => e = .returned (intV n).val ∧ Below w.heap.size w W' := by
  go_enter Try.func36, Try.ntmps36
  go_wp2
  refine bodyPost_ret (v := (intV n).val) (by simp [results, Try.results36, go_sem, intV, TV.val]) rfl ⟨rfl, (Below.refl _ _).alloc (Nat.le_refl _) _⟩
set_option maxHeartbeats 400000 in
theorem acompound_any (s : ByteArray) (a : Option Addr) (len cap : Nat) (w : World) : Calls Try.prog 55 #[.string s, .slice a len cap] w fun e W' => e = .returned (compV s a len cap).val ∧ Below w.heap.size w W' := by
  go_enter Try.func55, Try.ntmps55
  go_wp2
  refine bodyPost_ret (v := (compV s a len cap).val) (by simp [results, Try.results55, go_sem, compV, TV.val]) rfl ⟨rfl, (Below.refl _ _).alloc (Nat.le_refl _) _⟩
set_option maxHeartbeats 400000 in
theorem ratom_any (s : ByteArray) (w : World) : Calls Try.prog 22 #[.string s] w fun e W' => e = .returned (atomV s).val ∧ Below w.heap.size w W' := by
  go_enter Try.func22, Try.ntmps22
  go_wp2
  refine bodyPost_ret (v := (atomV s).val) (by simp [results, Try.results22, go_sem, atomV, TV.val]) rfl ⟨rfl, (Below.refl _ _).alloc (Nat.le_refl _) _⟩
set_option maxHeartbeats 400000 in
theorem rinteger_any (n : Int) (w : World) : Calls Try.prog 21 #[.int .i64 n] w fun e W' => e = .returned (intV n).val ∧ Below w.heap.size w W' := by
  go_enter Try.func21, Try.ntmps21
  go_wp2
  refine bodyPost_ret (v := (intV n).val) (by simp [results, Try.results21, go_sem, intV, TV.val]) rfl ⟨rfl, (Below.refl _ _).alloc (Nat.le_refl _) _⟩
set_option maxHeartbeats 400000 in
theorem rcompound_any (s : ByteArray) (a : Option Addr) (len cap : Nat) (w : World) : Calls Try.prog 28 #[.string s, .slice a len cap] w fun e W' => e = .returned (compV s a len cap).val ∧ Below w.heap.size w W' := by
  go_enter Try.func28, Try.ntmps28
  go_wp2
  refine bodyPost_ret (v := (compV s a len cap).val) (by simp [results, Try.results28, go_sem, compV, TV.val]) rfl ⟨rfl, (Below.refl _ _).alloc (Nat.le_refl _) _⟩

set_option maxRecDepth 100000 in
set_option maxHeartbeats 1000000 in
theorem notEvaluable_any (s : ByteArray) (hs : s.size ≤ 9223372036854775807) (n : Nat) (w : World) :
    Calls Try.prog 34 #[.string s, .int .i64 (n : Int)] w fun e W' => ∃ x : TV, e = .returned x.val ∧ Below w.heap.size w W' ∧ HoldsT 3 w.heap.size W' x.val (notC s.toList n) := by
  have ha := aatom_any s
  have hi := ainteger_any (n : Int)
  have hc := acompound_any
  simp only [atomV, intV, compV, TV.val] at ha hi hc
  go_enter Try.func34, Try.ntmps34
  go_wp2_with fail
  refine (ha _).mono ?_
  rintro e W1 ⟨rfl, hb1⟩
  go_wp2_with fail
  refine (hi _).mono ?_
  rintro e W2 ⟨rfl, hb2⟩
  go_wp2_with fail
  refine (hc _ _ _ _ _).mono ?_
  rintro e W3 ⟨rfl, hb3⟩
  go_wp2_with fail
  refine (hc _ _ _ _ _).mono ?_
  rintro e W4 ⟨rfl, hb4⟩
  clear ha hi hc
  have hn1 := World.alloc_heap_new W2 (.cells #[.int .i64 3, .int .i64 0, .string s, .slice none 0 0, .int .i64 2, .int .i64 (n : Int), .string ⟨#[]⟩, .slice none 0 0] 24)
  have hn2 := World.alloc_heap_new W3 (.cells #[.int .i64 4, .int .i64 0, .string ⟨#[47]⟩, .slice (some ⟨W2.heap.size, 0, none⟩) 2 2] 24)
  have hn0 := World.alloc_heap_new w (.cells #[.int .i64 0, .int .i64 0, .string ⟨#[]⟩, .slice none 0 0] 24)
  have s0 := hb1.size
  have s1 := hb2.size
  have s2 := hb3.size
  have s3 := hb4.size
  simp only [World.size_alloc] at s0 s1 s2 s3
  have b24 : Below (W2.heap.size + 1) (W2.alloc (.cells #[.int .i64 3, .int .i64 0, .string s, .slice none 0 0, .int .i64 2, .int .i64 (n : Int), .string ⟨#[]⟩, .slice none 0 0] 24)) W4 :=
    ((hb3.mono (by simp)).trans (((Below.refl _ W3).alloc (Nat.le_refl _) _).mono (by omega))).trans (hb4.mono (by simp; omega))
  have hc1 : W4.heap[W2.heap.size]? = _ := (b24.block _ (by omega)).trans hn1
  have hc2 : W4.heap[W3.heap.size]? = _ := (hb4.block _ (by simp)).trans hn2
  have b02 : Below (w.heap.size + 1) (w.alloc (.cells #[.int .i64 0, .int .i64 0, .string ⟨#[]⟩, .slice none 0 0] 24)) W2 := (hb1.mono (by simp)).trans (hb2.mono (by omega))
  have b04 : Below (w.heap.size + 1) (w.alloc (.cells #[.int .i64 0, .int .i64 0, .string ⟨#[]⟩, .slice none 0 0] 24)) W4 := (b02.trans (((Below.refl _ W2).alloc (Nat.le_refl _) _).mono (by omega))).trans (b24.mono (by omega))
  have hc0 : W4.heap[w.heap.size]? = _ := (b04.block _ (by omega)).trans hn0
  have hw4 : Below w.heap.size w W4 := ((Below.refl _ w).alloc (Nat.le_refl _) _).trans (b04.mono (by omega))
  have h2 := holds_two (lo := w.heap.size + 1) (atom_holds s hs _ W4) (int_holds (n : Int) _ W4) (by omega) hc1 ⟨#[47]⟩ (by show (1 : Nat) ≤ _; omega)
  have h3 := holds_one h2 (by omega) hc2 ⟨#[110, 111, 116, 95, 101, 118, 97, 108, 117, 97, 98, 108, 101]⟩ (by show (13 : Nat) ≤ _; omega)
  rw [slashL, notL] at h3
  obtain ⟨⟨z0, z1, z2, z3⟩, y0, y1, y2, y3⟩ := zbox_kept hc0
  have HF : Hid (Below w.heap.size w (set4 W4 w.heap.size 0 (compV ⟨#[110, 111, 116, 95, 101, 118, 97, 108, 117, 97, 98, 108, 101]⟩ (some ⟨W3.heap.size, 0, none⟩) 1 1)) ∧ HoldsT 3 w.heap.size (set4 W4 w.heap.size 0 (compV ⟨#[110, 111, 116, 95, 101, 118, 97, 108, 117, 97, 98, 108, 101]⟩ (some ⟨W3.heap.size, 0, none⟩) 1 1)) (compV ⟨#[110, 111, 116, 95, 101, 118, 97, 108, 117, 97, 98, 108, 101]⟩ (some ⟨W3.heap.size, 0, none⟩) 1 1).val (notC s.toList n)) :=
    ⟨set4_below hw4 (Nat.le_refl _) 0 _, (holds_set4 h3 (by omega) 0 _).mono (Nat.le_refl _) (by omega)⟩
  clear h2 h3 hc0 hc1 hc2 hn0 hn1 hn2 b24 b02 b04 hb1 hb2 hb3 hb4
  go_wp2_with fail
  exact bodyPost_ret (v := (compV ⟨#[110, 111, 116, 95, 101, 118, 97, 108, 117, 97, 98, 108, 101]⟩ (some ⟨W3.heap.size, 0, none⟩) 1 1).val) (by simp [results, Try.results34, go_sem, TV.val, compV, z0, z1, z2, z3]) rfl ⟨_, rfl, HF.out⟩
end Go.Proofs.Ytmgcojhmopcamaa

