import Derived.Test.YtlbobmebbllifaaGreatBmDs
import Derived.Test.YtlbobmebbllifaaGreatBeO
import Derived.WalkKit
import Derived.Laws.BitsAllLaws
import Derived.Test.YtlbobmebbllifaaGreatProg
import Derived.WalkLawsBesides
import Derived.WalkSpells
/- The contract of hornkeep.spoilt at a row of int: but for the row's own block all is as it was. -/
namespace Go.Proofs.YtlbobmebbllifaaGreat
set_option maxHeartbeats 1000000
set_option maxRecDepth 100000
open Go.RowKit Go.Shelf Go.Maps
def RowK (T : TypeId) (k : Nat) (W : World) (b cap : Nat) : Prop := ∃ arr : Array Value, W.heap[b]? = some (.cells arr T (0, 0)) ∧ arr.size = cap * k
theorem RowK.lt {T : TypeId} {k : Nat} {W : World} {b cap : Nat} (h : RowK T k W b cap) : b < W.heap.size := by obtain ⟨arr, h, _⟩ := h; exact (Array.getElem?_eq_some_iff.1 h).1
theorem RowK.cell {T : TypeId} {k : Nat} {W : World} {b cap : Nat} (h : RowK T k W b cap) {o : Nat} (ho : o < cap * k) : (∃ v, W.cell? ⟨b, o, none⟩ = some v) ∧ W.frozen? ⟨b, o, none⟩ = false := by
 obtain ⟨arr, h, hs⟩ := h
 refine ⟨⟨arr[o]'(by omega), ?_⟩, ?_⟩
 ·simp [World.cell?, h]
 ·simp [World.frozen?, h]
theorem RowK.kept {T : TypeId} {k : Nat} {W W' : World} {b cap : Nat} (h : RowK T k W b cap) (hb : W'.heap[b]? = W.heap[b]?) : RowK T k W' b cap := by
 obtain ⟨arr, h, hs⟩ := h
 exact ⟨arr, hb.trans h, hs⟩
theorem RowK.setCell {T : TypeId} {k : Nat} {W : World} {b cap : Nat} (h : RowK T k W b cap) (o : Nat) (v : Value) : RowK T k (W.setCell ⟨b, o, none⟩ v) b cap := by
 obtain ⟨arr, h, hs⟩ := h
 obtain ⟨hlt, hk⟩ := Array.getElem?_eq_some_iff.1 h
 refine ⟨arr.setIfInBounds o v, ?_, by simpa using hs⟩
 show (W.heap.modify b _)[b]? = _
 rw [Array.getElem?_eq_getElem (by rw [Array.size_modify]; exact hlt), Array.getElem_modify_self, hk]
 rfl
theorem RowK.owns {T : TypeId} {k : Nat} {W : World} {b cap len : Nat} (h : RowK T k W b cap) (hlc : len ≤ cap) (hcm : cap ≤ 9223372036854775807) : ∃ xs, W.ownsRow 0 T k (.slice (some ⟨b, 0, none⟩) len cap) len xs := by
 obtain ⟨arr, h, hs⟩ := h
 have hle : len * k ≤ cap * k := Nat.mul_le_mul_right _ hlc
 exact ⟨arr.toList.take (len * k), by simp; omega, .inr ⟨b, cap, arr, rfl, Nat.zero_le _, h, hlc, by unfold maxLen; omega, hs, rfl⟩⟩
structure OnlyB (w : World) (b : Nat) (W : World) : Prop where
 os : W.os = w.os
 tape : W.tape = w.tape
 output : W.output = w.output
 size : w.heap.size ≤ W.heap.size
 other : ∀ k, k < w.heap.size → k ≠ b → W.heap[k]? = w.heap[k]?
theorem OnlyB.refl (w : World) (b : Nat) : OnlyB w b w := ⟨rfl, rfl, rfl, Nat.le_refl _, fun _ _ _ => rfl⟩
theorem OnlyB.setCell {w W : World} {b : Nat} (h : OnlyB w b W) (o : Nat) (v : Value) : OnlyB w b (W.setCell ⟨b, o, none⟩ v) :=
 ⟨h.os, h.tape, h.output, by simpa using h.size, fun k hk hn => (Below.heap_setCell _ _ _ _ hn).trans (h.other k hk hn)⟩
theorem OnlyB.then_below {w W V : World} {b : Nat} (h : OnlyB w b W) (k : Below W.heap.size W V) : OnlyB w b V :=
 ⟨k.os.trans h.os, k.tape.trans h.tape, k.output.trans h.output, Nat.le_trans h.size k.size, fun i hi hn => (k.block i (Nat.lt_of_lt_of_le hi h.size)).trans (h.other i hi hn)⟩
theorem OnlyB.grown {w W V : World} {b : Nat} (h : OnlyB w b W) (k : W.grownBy V (some b)) : OnlyB w b V :=
 ⟨k.os.trans h.os, k.tape.trans h.tape, k.output.trans h.output, Nat.le_trans h.size k.size, fun i hi hn => (k.block i (Nat.lt_of_lt_of_le hi h.size) (by simpa using hn)).trans (h.other i hi hn)⟩
theorem thr_new (W : World) : ∀ j u, ([.int .i64 (-7), .int .i64 (-7), .int .i64 (-7)] : List Value)[j]? = some u → (W.alloc (.cells #[.int .i64 (-7), .int .i64 (-7), .int .i64 (-7)] 3)).cell? ((⟨W.heap.size, 0, none⟩ : Addr).add j) = some u := by
 intro j u hj
 rw [addr_add, Nat.zero_add]
 have hl := (List.getElem?_eq_some_iff.1 hj).1
 simp only [List.length_cons, List.length_nil] at hl
 have : j = 0 ∨ j = 1 ∨ j = 2 := by omega
 rcases this with rfl | rfl | rfl <;> (simp at hj; subst hj; simp)
theorem thr_one : ∀ u ∈ ([.int .i64 (-7), .int .i64 (-7), .int .i64 (-7)] : List Value), u.oneCell' = true := by
 intro u hu
 simp at hu
 subst hu
 rfl
theorem Tryz.info_int : (Tryz.prog.info? 3).map (fun i => (i.zero, i.size, i.bytes)) = some (some (.int .i64 0), 1, 8) := by kernel_rfl
theorem spoiltN_row (b len cap : Nat) (w : World) (hr : RowK 3 1 w b cap) (hlc : len ≤ cap) (hcap : cap ≤ 9223372036854775807) (hlen : len ≤ 4194304) :
  Calls Tryz.prog 14 #[.slice (some ⟨b, 0, none⟩) len cap, .int .i64 (-7)] w fun e W' => e = .returned (.tuple #[]) ∧ OnlyB w b W' := by
 obtain ⟨i0, hi, hz0, hz1, hz2⟩ := info_parts Tryz.info_int
 have hblt := hr.lt
 have HI := hide hi
 have HZ0 := hide hz0
 have HZ1 := hide hz1
 have HZ2 := hide hz2
 have HR := hide hr
 clear hr hi hz0 hz1 hz2
 go_enter Tryz.func14, Tryz.ntmps14
 go_wp2_with fail
 go_loopw [12] (fun i wr => ∃ j : Nat, j ≤ cap ∧ i = .int .i64 j ∧ OnlyB w b wr ∧ RowK 3 1 wr b cap) (fun i _ => cap - (intOf i).toNat)
 case atStart => exact ⟨0, Nat.zero_le _, rfl, OnlyB.refl _ _, unhide HR⟩
 case round =>
  obtain ⟨j, hj, rfl, ho, hr⟩ := hrel
  by_cases hlt : j < cap
  ·have hn1 := ho.setCell j (.int .i64 (-7))
   have hn2 := hr.setCell j (.int .i64 (-7))
   obtain ⟨⟨_, z0⟩, y0⟩ := hr.cell (o := j) (by omega)
   have HN1 := hide hn1
   have HN2 := hide hn2
   have hj1 : (j : Int) < cap := by omega
   clear hn1 hn2 hr ho
   go_wp2_with fail
   go_roundw
   case rel => exact ⟨j + 1, by omega, by go_num, unhide HN1, unhide HN2⟩
   case measure => simp [intOf]; omega
  ·obtain rfl : j = cap := by omega
   have hj1 : ¬ (j : Int) < j := by omega
   have hbA : Below wr.heap.size wr (wr.alloc (.cells #[.int .i64 (-7), .int .i64 (-7), .int .i64 (-7)] 3)) := (Below.refl _ wr).alloc (Nat.le_refl _) _
   obtain ⟨xs, hown⟩ := (hr.kept (hbA.block b hr.lt)).owns (len := len) hlc hcap
   have HOWN := hide hown
   have HOB := hide (ho.then_below hbA)
   clear hown hbA hr ho
   go_wp2_with (at_builtin; go_must (refine wpList_append_own_at _ rfl _ _ 44 rfl 0 3 i0 _ 1 8 Tryz.underlying44 (unhide HI) (unhide HZ0) (unhide HZ1) (unhide HZ2) rfl (by decide) (.slice (some ⟨b, 0, none⟩) len j) len xs rfl (unhide HOWN) ⟨wr.heap.size, 0, none⟩ 3 3 [.int .i64 (-7), .int .i64 (-7), .int .i64 (-7)] rfl rfl (thr_new wr) thr_one (by unfold maxLen; omega) (by omega) (Nat.zero_le _) ?_; intro v' W' hown' hgrow hnil' hbk'))
   exact bodyPost_end (v := .tuple #[]) (by simp [results, Tryz.results14, go_sem]) rfl ⟨rfl, (unhide HOB).grown hgrow⟩
theorem grown_none {w V : World} (k : w.grownBy V none) : Below w.heap.size w V := ⟨k.os, k.tape, k.output, k.size, fun i hi => k.block i hi (by simp)⟩
theorem spoiltN_nil (w : World) :
  Calls Tryz.prog 14 #[.slice none 0 0, .int .i64 (-7)] w fun e W' => e = .returned (.tuple #[]) ∧ Below w.heap.size w W' := by
 obtain ⟨i0, hi, hz0, hz1, hz2⟩ := info_parts Tryz.info_int
 have HI := hide hi
 have HZ0 := hide hz0
 have HZ1 := hide hz1
 have HZ2 := hide hz2
 clear hi hz0 hz1 hz2
 go_enter Tryz.func14, Tryz.ntmps14
 go_wp2_with fail
 go_loopw [12] (fun i wr => i = .int .i64 0 ∧ wr = w) (fun i _ => 0)
 case atStart => exact ⟨rfl, rfl⟩
 case round =>
  obtain ⟨rfl, rfl⟩ := hrel
  have hbA : Below wr.heap.size wr (wr.alloc (.cells #[.int .i64 (-7), .int .i64 (-7), .int .i64 (-7)] 3)) := (Below.refl _ wr).alloc (Nat.le_refl _) _
  have hown : (wr.alloc (.cells #[.int .i64 (-7), .int .i64 (-7), .int .i64 (-7)] 3)).ownsRow 0 3 1 (.slice none 0 0) 0 [] := ⟨rfl, .inl ⟨rfl, rfl⟩⟩
  have HOWN := hide hown
  have HOB := hide hbA
  clear hown hbA
  go_wp2_with (at_builtin; go_must (refine wpList_append_own_at _ rfl _ _ 44 rfl 0 3 i0 _ 1 8 Tryz.underlying44 (unhide HI) (unhide HZ0) (unhide HZ1) (unhide HZ2) rfl (by decide) (.slice none 0 0) 0 [] rfl (unhide HOWN) ⟨wr.heap.size, 0, none⟩ 3 3 [.int .i64 (-7), .int .i64 (-7), .int .i64 (-7)] rfl rfl (thr_new wr) thr_one (by unfold maxLen; omega) (by omega) (Nat.zero_le _) ?_; intro v' W' hown' hgrow hnil' hbk'))
  exact bodyPost_end (v := .tuple #[]) (by simp [results, Tryz.results14, go_sem]) rfl ⟨rfl, (unhide HOB).trans ((grown_none hgrow).mono (unhide HOB).size)⟩
theorem spoiltN_own {lo : Nat} {W : World} {v : Value} {ns : List Int} (h : OwnI lo W v ns) (hl : ns.length ≤ 4194304) (hlo : lo ≤ W.heap.size) :
  Calls Tryz.prog 14 #[v, .int .i64 (-7)] W fun e W' => e = .returned (.tuple #[]) ∧ Below lo W W' := by
 obtain ⟨hxl, ⟨rfl, hn⟩ | ⟨g, cap, arr, rfl, hg0, hg, hlc, hcm, hsz, hxs⟩⟩ := h
 ·exact (spoiltN_nil W).mono fun e W' hk => ⟨hk.1, hk.2.mono hlo⟩
 ·refine (spoiltN_row g ns.length cap W ⟨arr, hg, hsz⟩ hlc (by unfold maxLen at hcm; omega) hl).mono fun e W' hk => ⟨hk.1, ?_⟩
  have h2 := hk.2
  exact ⟨h2.os, h2.tape, h2.output, h2.size, fun i hi => h2.other i (Nat.lt_of_lt_of_le hi hlo) (by omega)⟩
theorem StS.all {n₀ : Nat} {W₁ V : World} {b u : Nat} {lb lu : Int} {Eb Eu : List En} {Sp : Nat → Prop} (h : StS n₀ W₁ b u lb lu Eb Eu Sp V) (hbig : lb ≤ 1048576) :
  Calls Tryz.prog 15 #[.pointer (some ⟨b, 0, none⟩)] V fun e V' => ∃ v ns, e = .returned v ∧ OwnI V.heap.size V' v ns ∧ ns.length ≤ 4194304 ∧ Below V.heap.size V V' := by
 obtain ⟨M, Ob, Ou, h1, h2, h3, h4, h5⟩ := h
 obtain ⟨me, mf, ce, cf, ge, gf, F, hB, hO⟩ := h4.fst
 refine (all_any hB hbig).mono fun e V' hk => ?_
 obtain ⟨v, rfl, q, g⟩ := hk
 exact ⟨v, _, rfl, q, by have := hB.cnt.2.2; rw [List.length_map]; omega, g⟩
theorem StV.all {n₀ : Nat} {W₁ V : World} {b vb wb : Nat} {laid : Int} {E A1 A2 B1 B2 : List En} {lv lw : Int} {Sp : Nat → Prop} (h : StV n₀ W₁ b vb wb laid E A1 A2 B1 B2 lv lw Sp V) (hbig : laid ≤ 1048576) :
  Calls Tryz.prog 15 #[.pointer (some ⟨b, 0, none⟩)] V fun e V' => ∃ v ns, e = .returned v ∧ OwnI V.heap.size V' v ns ∧ ns.length ≤ 4194304 ∧ Below V.heap.size V V' := by
 obtain ⟨M, O, h1, h2, h3, h4, h5, h6⟩ := h
 obtain ⟨me, mf, ce, cf, ge, gf, F, hB, hO⟩ := h5
 refine (all_any hB hbig).mono fun e V' hk => ?_
 obtain ⟨v, rfl, q, g⟩ := hk
 exact ⟨v, _, rfl, q, by have := hB.cnt.2.2; rw [List.length_map]; omega, g⟩
/- Plain mathematics of numbers of 64 bits: what comes out or runs over (fit), signs of bits, products, quotients, shifts, powers. -/
def inR (n : Int) : Prop := -9223372036854775808 ≤ n ∧ n ≤ 9223372036854775807
def sOvf : ByteArray := ⟨#[111, 118, 101, 114, 102, 108, 111, 119]⟩
def sZero : ByteArray := ⟨#[122, 101, 114, 111, 95, 100, 105, 118, 105, 100, 101]⟩
def sNeg : ByteArray := ⟨#[110, 101, 103, 97, 116, 105, 118, 101]⟩
def fit (n : Int) : Except ByteArray Int := if -9223372036854775808 ≤ n ∧ n ≤ 9223372036854775807 then .ok n else .error sOvf
theorem fit_ok {n : Int} (h : inR n) : fit n = .ok n := if_pos h
theorem fit_no {n : Int} (h : ¬ inR n) : fit n = .error sOvf := if_neg h
def ansV : Except ByteArray Int → Value
 | .ok n => .tuple #[.int .i64 n, .string ⟨#[]⟩]
 | .error s => .tuple #[.int .i64 0, .string s]
theorem bits_and64 (a b : Int) : bits .and .i64 a b = (BitVec.ofInt 64 a &&& BitVec.ofInt 64 b).toInt := by
 show IntKind.i64.wrap ((BitVec.ofInt 64 a &&& BitVec.ofInt 64 b).toNat : Int) = _
 rw [IntKind.wrap_i64, BitVec.toInt_eq_toNat_cond]
 have := (BitVec.ofInt 64 a &&& BitVec.ofInt 64 b).isLt
 split <;> omega
theorem bits_or64 (a b : Int) : bits .or .i64 a b = (BitVec.ofInt 64 a ||| BitVec.ofInt 64 b).toInt := by
 show IntKind.i64.wrap ((BitVec.ofInt 64 a ||| BitVec.ofInt 64 b).toNat : Int) = _
 rw [IntKind.wrap_i64, BitVec.toInt_eq_toNat_cond]
 have := (BitVec.ofInt 64 a ||| BitVec.ofInt 64 b).isLt
 split <;> omega
theorem bits_xor64 (a b : Int) : bits .xor .i64 a b = (BitVec.ofInt 64 a ^^^ BitVec.ofInt 64 b).toInt := by
 show IntKind.i64.wrap ((BitVec.ofInt 64 a ^^^ BitVec.ofInt 64 b).toNat : Int) = _
 rw [IntKind.wrap_i64, BitVec.toInt_eq_toNat_cond]
 have := (BitVec.ofInt 64 a ^^^ BitVec.ofInt 64 b).isLt
 split <;> omega
theorem toInt_in (x : BitVec 64) : inR x.toInt := by
 have h1 := BitVec.toInt_lt (x := x)
 have h2 := BitVec.le_toInt (x := x)
 unfold inR
 omega
theorem ofInt_msb {a : Int} (h : inR a) : (BitVec.ofInt 64 a).msb = decide (a < 0) := by
 rw [BitVec.msb_eq_toInt, BitVec.toInt_ofInt]
 unfold inR at h
 rw [Int.bmod_eq_of_le (by omega) (by omega)]
theorem and_neg {a b : Int} (ha : inR a) (hb : inR b) : bits .and .i64 a b < 0 ↔ a < 0 ∧ b < 0 := by
 rw [bits_and64]
 have h := BitVec.msb_eq_toInt (x := BitVec.ofInt 64 a &&& BitVec.ofInt 64 b)
 rw [BitVec.msb_and, ofInt_msb ha, ofInt_msb hb] at h
 have h' := congrArg (· = true) h
 simp only [Bool.and_eq_true, decide_eq_true_eq, eq_iff_iff] at h'
 exact h'.symm
theorem xor_neg {a b : Int} (ha : inR a) (hb : inR b) : bits .xor .i64 a b < 0 ↔ ¬ (a < 0 ↔ b < 0) := by
 rw [bits_xor64]
 have h := BitVec.msb_eq_toInt (x := BitVec.ofInt 64 a ^^^ BitVec.ofInt 64 b)
 rw [BitVec.msb_xor, ofInt_msb ha, ofInt_msb hb] at h
 have h' := congrArg (· = true) h
 simp only [decide_eq_true_eq, eq_iff_iff] at h'
 rw [← h']
 by_cases h1 : a < 0 <;> by_cases h2 : b < 0 <;> simp [h1, h2]
theorem xor_in (a b : Int) : inR (bits .xor .i64 a b) := by rw [bits_xor64]; exact toInt_in _
theorem wrap64_inR (n : Int) : inR (wrap64 n) := by unfold inR wrap64; omega
theorem wrap64_of {n : Int} (h : inR n) : wrap64 n = n := IntWalk.wrap64_in n h
theorem sum_over {a b : Int} (ha : inR a) (hb : inR b) : bits .and .i64 (bits .xor .i64 a (wrap64 (a + b))) (bits .xor .i64 b (wrap64 (a + b))) < 0 ↔ ¬ inR (a + b) := by
 rw [and_neg (xor_in _ _) (xor_in _ _), xor_neg ha (wrap64_inR _), xor_neg hb (wrap64_inR _)]
 unfold inR at *
 unfold wrap64
 omega
theorem diff_over {a b : Int} (ha : inR a) (hb : inR b) : bits .and .i64 (bits .xor .i64 a b) (bits .xor .i64 a (wrap64 (a - b))) < 0 ↔ ¬ inR (a - b) := by
 rw [and_neg (xor_in _ _) (xor_in _ _), xor_neg ha (wrap64_inR _), xor_neg ha hb]
 unfold inR at *
 unfold wrap64
 omega
theorem tmod_lt {n b : Int} (hb : b ≠ 0) : -(b.natAbs : Int) < n.tmod b ∧ n.tmod b < b.natAbs := by
 have h := Int.natAbs_tmod n b
 have h2 : n.natAbs % b.natAbs < b.natAbs := Nat.mod_lt _ (by omega)
 omega
theorem tdiv_part (n b : Int) : n.tdiv b * b + n.tmod b = n := by
 have h := Int.mul_tdiv_add_tmod n b
 rw [Int.mul_comm] at h
 exact h
theorem tmod_sign (n b : Int) : (0 ≤ n → 0 ≤ n.tmod b) ∧ (n ≤ 0 → n.tmod b ≤ 0) := by
 refine ⟨fun h => Int.tmod_nonneg b h, fun h => ?_⟩
 have h1 := Int.tmod_nonneg b (show 0 ≤ -n by omega)
 rw [Int.neg_tmod] at h1
 omega
theorem tdiv_in {a b : Int} (ha : inR a) (h : b ≠ -1 ∨ a ≠ -9223372036854775808) : inR (a.tdiv b) := by
 unfold inR at *
 have h1 : (a.tdiv b).natAbs = a.natAbs / b.natAbs := Int.natAbs_tdiv a b
 have h2 : a.natAbs / b.natAbs ≤ a.natAbs := Nat.div_le_self _ _
 by_cases hA : a = -9223372036854775808
 ·have hb : b ≠ -1 := by omega
  by_cases hb1 : b.natAbs ≤ 1
  ·by_cases hb0 : b = 0
   ·subst hb0; simp
   ·have : b = 1 := by omega
    subst this
    rw [Int.tdiv_one]
    exact ha
  ·have : a.natAbs / b.natAbs < a.natAbs := Nat.div_lt_self (by omega) (by omega)
   omega
 ·omega
theorem tmod_in {a b : Int} (ha : inR a) : inR (a.tmod b) := by
 unfold inR at *
 have h1 : (a.tmod b).natAbs = a.natAbs % b.natAbs := Int.natAbs_tmod a b
 have h2 : a.natAbs % b.natAbs ≤ a.natAbs := Nat.mod_le _ _
 have h3 := tmod_sign a b
 omega
theorem mul_over {a b : Int} (hb : inR b) (h0 : b ≠ 0) : (wrap64 (a * b)).tdiv b = a ↔ inR (a * b) := by
 refine ⟨fun h => ?_, fun h => by rw [wrap64_of h, Int.mul_tdiv_cancel _ h0]⟩
 have h1 := tdiv_part (wrap64 (a * b)) b
 have h2 := tmod_lt (n := wrap64 (a * b)) h0
 rw [h] at h1
 generalize a * b = p at *
 generalize (wrap64 p).tmod b = r at *
 unfold inR at *
 unfold wrap64 at *
 omega
def offB (a b : Int) : Bool := decide (a.tmod b < 0 ∧ 0 < b ∨ 0 < a.tmod b ∧ b < 0)
def flr (a b : Int) : Int := if offB a b then a.tdiv b - 1 else a.tdiv b
def lft (a b : Int) : Int := if offB a b then a.tmod b + b else a.tmod b
theorem lft_pos {a b : Int} (hb : 0 < b) : 0 ≤ lft a b ∧ lft a b < b := by
 have h := tmod_lt (n := a) (b := b) (by omega)
 unfold lft offB
 split
 ·rename_i h1
  simp at h1
  omega
 ·rename_i h1
  simp at h1
  omega
theorem lft_neg {a b : Int} (hb : b < 0) : lft a b ≤ 0 ∧ b < lft a b := by
 have h := tmod_lt (n := a) (b := b) (by omega)
 unfold lft offB
 split
 ·rename_i h1
  simp at h1
  omega
 ·rename_i h1
  simp at h1
  omega
theorem offB_one (a : Int) : offB a (-1) = false := by
 have h : a.tmod (-1) = 0 := by
  have := tmod_lt (n := a) (b := -1) (by omega)
  omega
 simp [offB, h]
theorem tdiv_neg_one (a : Int) : a.tdiv (-1) = -a := by rw [Int.tdiv_neg, Int.tdiv_one]
theorem flr_in {a b : Int} (ha : inR a) (h0 : b ≠ 0) (h : b ≠ -1 ∨ a ≠ -9223372036854775808) : inR (flr a b) := by
 have h1 := tdiv_in (b := b) ha h
 have h2 : (a.tdiv b).natAbs = a.natAbs / b.natAbs := Int.natAbs_tdiv a b
 unfold flr
 split
 ·rename_i ho
  have hb1 : 1 < b.natAbs := by
   have := tmod_lt (n := a) h0
   simp [offB] at ho
   omega
  have : a.natAbs / b.natAbs ≤ a.natAbs / 2 := Nat.div_le_div_left (by omega) (by omega)
  unfold inR at *
  omega
 ·exact h1
theorem lft_in {a b : Int} (hb : inR b) (h0 : b ≠ 0) : inR (lft a b) := by
 rcases Int.lt_or_gt_of_ne h0 with h | h
 ·have := lft_neg (a := a) h
  unfold inR at *
  omega
 ·have := lft_pos (a := a) h
  unfold inR at *
  omega
theorem pow_pos (k : Nat) : (0 : Int) < 2 ^ k := Int.pow_pos (by decide)
theorem shl_over (a : Int) (k : Nat) : wrap64 (a * 2 ^ min k 64) / 2 ^ min k 64 = a ↔ inR (a * 2 ^ k) := by
 by_cases hk : k ≤ 64
 ·rw [Nat.min_eq_left hk]
  have hp := pow_pos k
  refine ⟨fun h => ?_, fun h => by rw [wrap64_of h, Int.mul_ediv_cancel _ (by omega)]⟩
  obtain ⟨q, hq⟩ : ∃ q : Int, wrap64 (a * 2 ^ k) = a * 2 ^ k + q * 18446744073709551616 := ⟨-((a * 2 ^ k + 9223372036854775808) / 18446744073709551616), by unfold wrap64; omega⟩
  have hsplit : (18446744073709551616 : Int) = 2 ^ (64 - k) * 2 ^ k := by
   rw [← Int.pow_add, Nat.sub_add_cancel hk]; rfl
  have hq2 : q = 0 := by
   rw [hq, hsplit, ← Int.mul_assoc, ← Int.add_mul, Int.mul_ediv_cancel _ (by omega)] at h
   have h3 : q * 2 ^ (64 - k) = 0 := by omega
   rcases Int.mul_eq_zero.1 h3 with h4 | h4
   ·exact h4
   ·have := pow_pos (64 - k); omega
  have := wrap64_inR (a * 2 ^ k)
  rw [hq, hq2] at this
  simpa using this
 ·rw [Nat.min_eq_right (by omega)]
  have h64 : ((2 : Int) ^ 64) = 18446744073709551616 := by decide
  have hz : wrap64 (a * 2 ^ 64) = 0 := by rw [h64]; unfold wrap64; omega
  rw [hz, Int.zero_ediv]
  refine ⟨fun h => by rw [← h, Int.zero_mul]; unfold inR; omega, fun h => ?_⟩
  by_cases h0 : a = 0
  ·exact h0.symm
  ·exfalso
   have hge : (18446744073709551616 : Int) ≤ 2 ^ k := by
    rw [← h64, show k = 64 + (k - 64) by omega, Int.pow_add]
    have := pow_pos (k - 64)
    rw [h64]
    omega
   generalize (2 : Int) ^ k = p at *
   have hab : (a * p).natAbs = a.natAbs * p.natAbs := Int.natAbs_mul a p
   have h1 : 1 * p.natAbs ≤ a.natAbs * p.natAbs := Nat.mul_le_mul_right _ (by omega)
   unfold inR at h
   omega
theorem pow_grows {a : Int} (ha : 2 ≤ a.natAbs) {k : Nat} (h : ¬ inR (a ^ k)) : ∀ d, ¬ inR (a ^ (k + d)) ∧ 9223372036854775808 ≤ (a ^ (k + d)).natAbs
 | 0 => ⟨h, by unfold inR at h; simp only [Nat.add_zero]; omega⟩
 | d + 1 => by
  have ih := (pow_grows ha h d).2
  have h1 : (a ^ (k + (d + 1))).natAbs = (a ^ (k + d)).natAbs * a.natAbs := by rw [← Nat.add_assoc, Int.pow_succ, Int.natAbs_mul]
  have h2 : (a ^ (k + d)).natAbs * 2 ≤ (a ^ (k + d)).natAbs * a.natAbs := Nat.mul_le_mul_left _ ha
  refine ⟨fun h3 => ?_, by omega⟩
  unfold inR at h3
  omega
theorem pow_small {a : Int} (h : -1 ≤ a ∧ a ≤ 1) : ∀ k : Nat, 1 ≤ k → a ^ k = if k % 2 = 0 then a * a else a
 | 0, hk => by omega
 | 1, _ => by simp [Int.pow_succ]
 | k + 2, _ => by
  by_cases hk : k = 0
  ·subst hk
   simp [Int.pow_succ]
  ·have ih := pow_small h k (by omega)
   have : (k + 2) % 2 = k % 2 := by omega
   rw [this, Int.pow_succ, Int.pow_succ, ih]
   have ha : a = -1 ∨ a = 0 ∨ a = 1 := by omega
   rcases ha with rfl | rfl | rfl <;> split <;> rfl
theorem small_in {a : Int} (h : -1 ≤ a ∧ a ≤ 1) (k : Nat) : inR (a ^ k) := by
 by_cases hk : k = 0
 ·subst hk; simp [inR]
 ·rw [pow_small h k (by omega)]
  have ha : a = -1 ∨ a = 0 ∨ a = 1 := by omega
  rcases ha with rfl | rfl | rfl <;> split <;> simp [inR]
/- The contracts of arith's exact.go: sums, differences, products, quotients, shifts, magnitudes. -/
set_option maxHeartbeats 1000000
theorem sum_any (a b : Int) (ha : inR a) (hb : inR b) (w : World) :
  Calls Tryz.prog 113 #[.int .i64 a, .int .i64 b] w fun e w' => e = .returned (ansV (fit (a + b))) ∧ w' = w := by
 have ho := sum_over ha hb
 by_cases h : inR (a + b)
 ·have h1 : ¬ bits .and .i64 (bits .xor .i64 a (wrap64 (a + b))) (bits .xor .i64 b (wrap64 (a + b))) < 0 := fun x => ho.1 x h
  rw [fit_ok h]
  have HW : Hid (wrap64 (a + b) = a + b) := wrap64_of h
  clear ho
  go_enter Tryz.func113, Tryz.ntmps113
  go_wp2
  all_goals go_ret2
  all_goals (first | omega | (refine ⟨?_, rfl⟩; simp [ansV, HW.out]))
 ·have h1 := ho.2 h
  rw [fit_no h]
  clear ho
  go_enter Tryz.func113, Tryz.ntmps113
  go_wp2
  all_goals go_ret2
  all_goals (first | omega | (refine ⟨?_, rfl⟩; rfl))
theorem diff_any (a b : Int) (ha : inR a) (hb : inR b) (w : World) :
  Calls Tryz.prog 105 #[.int .i64 a, .int .i64 b] w fun e w' => e = .returned (ansV (fit (a - b))) ∧ w' = w := by
 have ho := diff_over ha hb
 by_cases h : inR (a - b)
 ·have h1 : ¬ bits .and .i64 (bits .xor .i64 a b) (bits .xor .i64 a (wrap64 (a - b))) < 0 := fun x => ho.1 x h
  rw [fit_ok h]
  have HW : Hid (wrap64 (a - b) = a - b) := wrap64_of h
  clear ho
  go_enter Tryz.func105, Tryz.ntmps105
  go_wp2
  all_goals go_ret2
  all_goals (first | omega | (refine ⟨?_, rfl⟩; simp [ansV, HW.out]))
 ·have h1 := ho.2 h
  rw [fit_no h]
  clear ho
  go_enter Tryz.func105, Tryz.ntmps105
  go_wp2
  all_goals go_ret2
  all_goals (first | omega | (refine ⟨?_, rfl⟩; rfl))
theorem ansV_shape (x : Except ByteArray Int) : ∃ n s, ansV x = .tuple #[.int .i64 n, .string s] := by
 cases x <;> exact ⟨_, _, rfl⟩
theorem product_any (a b : Int) (ha : inR a) (hb : inR b) (w : World) :
  Calls Tryz.prog 114 #[.int .i64 a, .int .i64 b] w fun e w' => e = .returned (ansV (fit (a * b))) ∧ w' = w := by
 by_cases h1 : b = -1
 ·subst h1
  have hd := diff_any 0 a (by simp [inR]) ha w
  rw [show a * -1 = 0 - a by omega]
  obtain ⟨n, s, hv⟩ := ansV_shape (fit (0 - a))
  rw [hv] at hd ⊢
  clear hv
  go_enter Tryz.func114, Tryz.ntmps114
  go_wp2_with fail
  refine hd.mono ?_
  rintro e w' ⟨rfl, rfl⟩
  go_wp2
  all_goals go_ret2
  all_goals exact ⟨rfl, rfl⟩
 ·by_cases h0 : b = 0
  ·subst h0
   rw [Int.mul_zero, fit_ok (by simp [inR])]
   have hw : wrap64 (a * 0) = 0 := by rw [Int.mul_zero]; exact wrap64_of (by simp [inR])
   go_enter Tryz.func114, Tryz.ntmps114
   go_wp2
   all_goals go_ret2
   all_goals (refine ⟨?_, rfl⟩; simp [ansV])
  ·have ho := mul_over (a := a) hb h0
   have hq : inR ((wrap64 (a * b)).tdiv b) := tdiv_in (wrap64_inR _) (.inl h1)
   have hq1 := hq.1
   have hq2 := hq.2
   by_cases h : inR (a * b)
   ·have h3 := ho.2 h
    have h2 : ((wrap64 (a * b)).tdiv b != a) = false := by simp [h3]
    rw [fit_ok h]
    have HW : Hid (wrap64 (a * b) = a * b) := wrap64_of h
    clear ho h3
    go_enter Tryz.func114, Tryz.ntmps114
    go_wp2
    all_goals go_ret2
    all_goals (refine ⟨?_, rfl⟩; simp [ansV, HW.out])
   ·have h2 : ((wrap64 (a * b)).tdiv b != a) = true := by simpa using fun x => h (ho.1 x)
    rw [fit_no h]
    clear ho
    go_enter Tryz.func114, Tryz.ntmps114
    go_wp2
    all_goals go_ret2
    all_goals (refine ⟨?_, rfl⟩; rfl)
theorem quotient_any (a b : Int) (ha : inR a) (hb0 : b ≠ 0) (w : World) :
  Calls Tryz.prog 116 #[.int .i64 a, .int .i64 b] w fun e w' => e = .returned (ansV (fit (a.tdiv b))) ∧ w' = w := by
 by_cases h1 : b = -1
 ·subst h1
  have hd := diff_any 0 a (by simp [inR]) ha w
  rw [tdiv_neg_one, show -a = 0 - a by omega]
  obtain ⟨n, s, hv⟩ := ansV_shape (fit (0 - a))
  rw [hv] at hd ⊢
  clear hv
  go_enter Tryz.func116, Tryz.ntmps116
  go_wp2_with fail
  refine hd.mono ?_
  rintro e w' ⟨rfl, rfl⟩
  go_wp2
  all_goals go_ret2
  all_goals exact ⟨rfl, rfl⟩
 ·have hq : inR (a.tdiv b) := tdiv_in ha (.inl h1)
  have hq1 := hq.1
  have hq2 := hq.2
  rw [fit_ok hq]
  go_enter Tryz.func116, Tryz.ntmps116
  go_wp2
  all_goals go_ret2
  all_goals (refine ⟨?_, rfl⟩; simp [ansV])
theorem aboveFloor_any (a b : Int) (hb : inR b) (hb0 : b ≠ 0) (w : World) :
  Calls Tryz.prog 119 #[.int .i64 a, .int .i64 b] w fun e w' => e = .returned (.int .i64 (lft a b)) ∧ w' = w := by
 have HL : Hid (inR (lft a b)) := lft_in hb hb0
 have HT : Hid (-(b.natAbs : Int) < a.tmod b ∧ a.tmod b < b.natAbs) := tmod_lt hb0
 go_enter Tryz.func119, Tryz.ntmps119
 go_wp2
 all_goals go_ret
 all_goals refine ⟨?_, rfl⟩
 all_goals have HL := HL.out
 all_goals have HT := HT.out
 all_goals unfold lft offB inR at *
 all_goals simp only [decide_eq_true_eq, Bool.decide_or, Bool.decide_and, Bool.or_eq_true, Bool.and_eq_true] at *
 all_goals (split at HL <;> (try split) <;> simp <;> first | omega | (rw [IntWalk.wrap64_in _ (by omega)]))
theorem shiftLeft_any (a b : Int) (hb : 0 ≤ b) (w : World) :
  Calls Tryz.prog 125 #[.int .i64 a, .int .i64 b] w fun e w' => e = .returned (ansV (fit (a * 2 ^ b.toNat))) ∧ w' = w := by
 have ho := shl_over a b.toNat
 by_cases h : inR (a * 2 ^ b.toNat)
 ·have h2 : (wrap64 (a * 2 ^ min b.toNat 64) / 2 ^ min b.toNat 64 != a) = false := by simp [ho.2 h]
  rw [fit_ok h]
  have HW : Hid (wrap64 (a * 2 ^ min b.toNat 64) = a * 2 ^ b.toNat) := by
   show _ = _
   by_cases hk : b.toNat ≤ 64
   ·rw [Nat.min_eq_left hk, wrap64_of h]
   ·have h3 := ho.2 h
    rw [Nat.min_eq_right (by omega)] at h3 ⊢
    have h64 : ((2 : Int) ^ 64) = 18446744073709551616 := by decide
    have hz : wrap64 (a * 2 ^ 64) = 0 := by rw [h64]; unfold wrap64; omega
    rw [hz, Int.zero_ediv] at h3
    rw [hz, ← h3, Int.zero_mul]
  clear ho
  go_enter Tryz.func125, Tryz.ntmps125
  go_wp2
  all_goals go_ret2
  all_goals (refine ⟨?_, rfl⟩; simp [ansV, HW.out])
 ·have h2 : (wrap64 (a * 2 ^ min b.toNat 64) / 2 ^ min b.toNat 64 != a) = true := by simpa using fun x => h (ho.1 x)
  rw [fit_no h]
  clear ho
  go_enter Tryz.func125, Tryz.ntmps125
  go_wp2
  all_goals go_ret2
  all_goals (refine ⟨?_, rfl⟩; rfl)
theorem magnitude_any (a : Int) (ha : inR a) (w : World) :
  Calls Tryz.prog 110 #[.int .i64 a] w fun e w' => e = .returned (.int .u64 (a.natAbs : Int)) ∧ w' = w := by
 have ha1 := ha.1
 have ha2 := ha.2
 go_enter Tryz.func110, Tryz.ntmps110
 go_wp2
 all_goals go_ret
 all_goals refine ⟨?_, rfl⟩
 all_goals simp [IntKind.wrap_u64]
 all_goals omega
theorem signed_any (a : Nat) (ha : a ≤ 18446744073709551615) (w : World) :
  Calls Tryz.prog 109 #[.int .u64 (a : Int)] w fun e w' => e = .returned (ansV (fit (a : Int))) ∧ w' = w := by
 by_cases h : (a : Int) ≤ 9223372036854775807
 ·rw [fit_ok (by unfold inR; omega)]
  go_enter Tryz.func109, Tryz.ntmps109
  go_wp2
  all_goals go_ret2
  all_goals refine ⟨?_, rfl⟩
  all_goals simp [ansV]
 ·rw [fit_no (by unfold inR; omega)]
  go_enter Tryz.func109, Tryz.ntmps109
  go_wp2
  all_goals go_ret2
  all_goals refine ⟨?_, rfl⟩
  all_goals rfl
end Go.Proofs.YtlbobmebbllifaaGreat
