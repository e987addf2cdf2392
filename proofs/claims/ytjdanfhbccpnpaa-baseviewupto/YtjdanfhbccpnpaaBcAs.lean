import Derived.Test.YtjdanfhbccpnpaaBbFs
/- term.Copy, as base calls it. -/
namespace Go.Proofs.Ytjdanfhbccpnpaa
open Go.RowKit Go.Shelf

/-- A copy, whatever the term: in new memory. -/
theorem copyOf_any {n : Nat} (t : Tm n) (W : World) (hT : IsT W.heap.size W t) (hok : okT t = true) : Calls Try.prog 45 #[t.tv.val] W fun e W' => ∃ x : TV, e = .returned x.val ∧ Below W.heap.size W W' ∧ HoldsS (n + 1) (W.heap.size ≤ ·) W' x.val (code t) :=
  (copy_any t W hT hok).mono fun e W' h => by
    obtain ⟨x, h1, h2, h3⟩ := h
    exact ⟨x, h1, h2, h3.holdsS⟩
end Go.Proofs.Ytjdanfhbccpnpaa

/- base.predicateOf, keyOf, tall, grown, idAt. -/
namespace Go.Proofs.Ytjdanfhbccpnpaa
open Go.RowKit Go.Shelf

def predV (s : ByteArray) (n : Nat) : Value := .agg #[.string s, .int .i64 (n : Int)]
def keyV (k N : Int) (s : ByteArray) (n : Nat) : Value := .agg #[.int .i64 k, .int .i64 N, .string s, .int .i64 (n : Int)]
set_option maxRecDepth 100000 in
set_option maxHeartbeats 1000000 in
theorem predicateOf_any (x : TV) (w : World) : Calls Try.prog 24 #[x.val] w fun e W' => e = .returned (predV x.s x.len) ∧ Below w.heap.size w W' := by
  obtain ⟨k, N, s, a, len, cap⟩ := x
  simp only [TV.val, predV]
  go_enter Try.func24, Try.ntmps24
  go_wp2_with fail
  exact bodyPost_ret (v := predV s len) (by simp [results, Try.results24, go_sem, predV]) rfl ⟨rfl, ((Below.refl _ w).alloc (Nat.le_refl _) _).alloc (by simp) _⟩
/-- What is looked at of a first Arg. -/
def keyOfT {n : Nat} (t : Tm (n + 1)) : Int × Int × ByteArray × Nat :=
  match t.kids with
  | [] => (0, 0, ⟨#[]⟩, 0)
  | u :: _ => if u.tv.k = 1 then (0, 0, ⟨#[]⟩, 0) else (u.tv.k, u.tv.N, u.tv.s, u.tv.len)
def keyOfV {n : Nat} (t : Tm (n + 1)) : Value := keyV (keyOfT t).1 (keyOfT t).2.1 (keyOfT t).2.2.1 (keyOfT t).2.2.2
set_option maxRecDepth 100000 in
set_option maxHeartbeats 1000000 in
theorem keyOf_none (k N : Int) (s : ByteArray) (a : Option Addr) (cap : Nat) (w : World) : Calls Try.prog 28 #[(⟨k, N, s, a, 0, cap⟩ : TV).val] w fun e W' => e = .returned (keyV 0 0 ⟨#[]⟩ 0) ∧ Below w.heap.size w W' := by
  simp only [TV.val]
  go_enter Try.func28, Try.ntmps28
  go_wp2_with fail
  exact bodyPost_ret (v := keyV 0 0 ⟨#[]⟩ 0) (by simp [results, Try.results28, go_sem, keyV]) rfl ⟨rfl, ((Below.refl _ w).alloc (Nat.le_refl _) _).alloc (by simp) _⟩
set_option maxRecDepth 100000 in
set_option maxHeartbeats 1000000 in
theorem keyOf_var (k N : Int) (s : ByteArray) (b off len cap : Nat) (u : TV) (w : World) (hl : 1 ≤ len) (hb : b < w.heap.size) (hu : cellsAt w b off u) (hk : u.k = 1) : Calls Try.prog 28 #[(⟨k, N, s, some ⟨b, off, none⟩, len, cap⟩ : TV).val] w fun e W' => e = .returned (keyV 0 0 ⟨#[]⟩ 0) ∧ Below w.heap.size w W' := by
  have hb2 : Below w.heap.size w ((w.alloc (.cells #[.int .i64 k, .int .i64 N, .string s, .slice (some ⟨b, off, none⟩) len cap] 24)).alloc (.cells #[.int .i64 0, .int .i64 0, .string ⟨#[]⟩, .int .i64 0] 81)) := ((Below.refl _ w).alloc (Nat.le_refl _) _).alloc (by simp) _
  obtain ⟨u0, u1, u2, u3⟩ := hu.kept (hb2.block b hb)
  rw [hk] at u0
  have hl0 : ((len : Int) == 0) = false := by simp; omega
  have hl1 : (0 : Int) < len := by omega
  clear hu u1 u2 u3 hk hb hb2
  simp only [TV.val]
  go_enter Try.func28, Try.ntmps28
  go_wp2_with fail
  exact bodyPost_ret (v := keyV 0 0 ⟨#[]⟩ 0) (by simp [results, Try.results28, go_sem, keyV]) rfl ⟨rfl, ((Below.refl _ w).alloc (Nat.le_refl _) _).alloc (by simp) _⟩
set_option maxRecDepth 100000 in
set_option maxHeartbeats 1000000 in
theorem keyOf_some (k N : Int) (s : ByteArray) (b off len cap : Nat) (u : TV) (w : World) (hl : 1 ≤ len) (hb : b < w.heap.size) (hu : cellsAt w b off u) (hk : ¬ u.k = 1) : Calls Try.prog 28 #[(⟨k, N, s, some ⟨b, off, none⟩, len, cap⟩ : TV).val] w fun e W' => e = .returned (keyV u.k u.N u.s u.len) ∧ Below w.heap.size w W' := by
  have hb2 : Below w.heap.size w ((w.alloc (.cells #[.int .i64 k, .int .i64 N, .string s, .slice (some ⟨b, off, none⟩) len cap] 24)).alloc (.cells #[.int .i64 0, .int .i64 0, .string ⟨#[]⟩, .int .i64 0] 81)) := ((Below.refl _ w).alloc (Nat.le_refl _) _).alloc (by simp) _
  obtain ⟨u0, u1, u2, u3⟩ := hu.kept (hb2.block b hb)
  have hk' : (u.k == 1) = false := by simpa using hk
  have hl0 : ((len : Int) == 0) = false := by simp; omega
  have hl1 : (0 : Int) < len := by omega
  clear hu hk hb hb2
  simp only [TV.val]
  go_enter Try.func28, Try.ntmps28
  go_wp2_with fail
  exact bodyPost_ret (v := keyV u.k u.N u.s u.len) (by simp [results, Try.results28, go_sem, keyV]) rfl ⟨rfl, (((Below.refl _ w).alloc (Nat.le_refl _) _).alloc (by simp) _).alloc (by simp; omega) _⟩
theorem keyOf_any {n : Nat} (t : Tm (n + 1)) (w : World) (hT : IsT w.heap.size w t) : Calls Try.prog 28 #[t.tv.val] w fun e W' => e = .returned (keyOfV t) ∧ Below w.heap.size w W' := by
  obtain ⟨⟨k, N, s, a, len, cap⟩, kids⟩ := t
  obtain ⟨h1, h2, h3, h4⟩ := hT
  simp only [Tm.tv, Tm.kids] at h1 h2 h3 h4
  cases kids with
  | nil =>
    obtain rfl : len = 0 := h1
    exact keyOf_none k N s a cap w
  | cons u r =>
    rcases h4 with h4 | ⟨b, off, rfl, hb, hk⟩
    · cases h4
    · obtain ⟨cu, _⟩ := hk 0 u rfl
      have cu' : cellsAt w b (off + 0 * 4) u.tv := cu
      rw [Nat.zero_mul, Nat.add_zero] at cu'
      have hl : 1 ≤ len := by simp at h1; omega
      by_cases hk1 : u.tv.k = 1
      · have e : keyOfV (n := n) ((⟨k, N, s, some ⟨b, off, none⟩, len, cap⟩, u :: r) : TV × List (Tm n)) = keyV 0 0 ⟨#[]⟩ 0 := by
          unfold keyOfV keyOfT
          simp [Tm.kids, hk1]
        rw [e]
        exact keyOf_var k N s b off len cap u.tv w hl hb cu' hk1
      · have e : keyOfV (n := n) ((⟨k, N, s, some ⟨b, off, none⟩, len, cap⟩, u :: r) : TV × List (Tm n)) = keyV u.tv.k u.tv.N u.tv.s u.tv.len := by
          unfold keyOfV keyOfT
          simp [Tm.kids, hk1]
        rw [e]
        exact keyOf_some k N s b off len cap u.tv w hl hb cu' hk1
set_option maxHeartbeats 400000 in
theorem tall_nil (w : World) : Calls Try.prog 57 #[.pointer none] w fun e W' => e = .returned (.int .i64 0) ∧ W' = w := by
  go_enter Try.func57, Try.ntmps57
  go_wp2
  all_goals go_ret
  all_goals exact ⟨rfl, rfl⟩
set_option maxHeartbeats 400000 in
theorem tall_at (b : Nat) (h : Int) (w : World) (hc : w.cell? ⟨b, 3, none⟩ = some (.int .i64 h)) : Calls Try.prog 57 #[.pointer (some ⟨b, 0, none⟩)] w fun e W' => e = .returned (.int .i64 h) ∧ W' = w := by
  go_enter Try.func57, Try.ntmps57
  go_wp2
  all_goals go_ret
  all_goals exact ⟨rfl, rfl⟩
/-- How tall a tree's pointer tells that it is. -/
def Tall (w : World) (p : Option Addr) (h : Int) : Prop := (p = none ∧ h = 0) ∨ ∃ b, p = some ⟨b, 0, none⟩ ∧ w.cell? ⟨b, 3, none⟩ = some (.int .i64 h)
theorem tall_any {p : Option Addr} {h : Int} {w : World} (ht : Tall w p h) : Calls Try.prog 57 #[.pointer p] w fun e W' => e = .returned (.int .i64 h) ∧ W' = w := by
  rcases ht with ⟨rfl, rfl⟩ | ⟨b, rfl, hc⟩
  · exact tall_nil w
  · exact tall_at b h w hc
set_option maxRecDepth 100000 in
set_option maxHeartbeats 1000000 in
theorem grown_any (l e r : Option Addr) (hl hr : Int) (w : World) (h1 : Tall w l hl) (h2 : Tall w r hr) (b1 : 0 ≤ hl ∧ hl < 4611686018427387904) (b2 : 0 ≤ hr ∧ hr < 4611686018427387904) :
    Calls Try.prog 50 #[.pointer l, .pointer e, .pointer r] w fun e' W' => e' = .returned (.pointer (some ⟨w.heap.size, 0, none⟩)) ∧ W' = w.alloc (.cells #[.pointer e, .pointer l, .pointer r, .int .i64 (max hl hr + 1)] 117) := by
  have t1 := tall_any h1
  have t2 := tall_any h2
  have hw : wrap64 (max hl hr + 1) = max hl hr + 1 := by unfold wrap64; omega
  clear h1 h2
  go_enter Try.func50, Try.ntmps50
  go_wp2_with fail
  refine t1.mono ?_
  rintro e1 W1 ⟨rfl, rfl⟩
  clear t1
  go_wp2_with fail
  refine t2.mono ?_
  rintro e2 W2 ⟨rfl, rfl⟩
  clear t2
  go_wp2_with fail
  all_goals go_ret
  all_goals exact ⟨rfl, rfl⟩
end Go.Proofs.Ytjdanfhbccpnpaa

