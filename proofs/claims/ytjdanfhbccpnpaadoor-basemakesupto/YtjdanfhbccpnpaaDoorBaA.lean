import Derived.Test.YtjdanfhbccpnpaaDoorHds
import Derived.Test.YtjdanfhbccpnpaaDoorD
/- hornref.Is, hornref.Body. -/
namespace Go.Proofs.YtjdanfhbccpnpaaDoor
open Go.RowKit Go.Shelf

/-- An atom or a compound of a name with so many Args? -/
def isB (x : TV) (s : List UInt8) (n : Int) : Bool := (decide (x.k = 3) || decide (x.k = 4)) && (decide (x.s.toList = s) && ((x.len : Int) == n))
set_option maxHeartbeats 1000000 in
theorem ris_any (x : TV) (s : ByteArray) (n : Int) (w : World) : Calls Tryd.prog 24 #[x.val, .string s, .int .i64 n] w fun e W' => e = .returned (.bool (isB x s.toList n)) ∧ Below w.heap.size w W' := by
  obtain ⟨k, N, xs, a, len, cap⟩ := x
  simp only [TV.val]
  by_cases h3 : k = 3
  · subst h3
    go_enter Tryd.func24, Tryd.ntmps24
    go_wp2
    all_goals go_ret
    all_goals refine ⟨?_, (Below.refl _ w).alloc (Nat.le_refl _) _⟩
    all_goals simp_all [isB]
  · have h3' : (k == 3) = false := by simp [h3]
    by_cases h4 : k = 4
    · subst h4
      go_enter Tryd.func24, Tryd.ntmps24
      go_wp2
      all_goals go_ret
      all_goals refine ⟨?_, (Below.refl _ w).alloc (Nat.le_refl _) _⟩
      all_goals simp_all [isB]
    · have h4' : (k == 4) = false := by simp [h4]
      have HV : Hid (isB ⟨k, N, xs, a, len, cap⟩ s.toList n = false) := by show isB _ _ _ = _; simp [isB, h3, h4]
      clear h3 h4
      go_enter Tryd.func24, Tryd.ntmps24
      go_wp2
      all_goals go_ret
      all_goals exact ⟨by rw [HV.out]; rfl, (Below.refl _ w).alloc (Nat.le_refl _) _⟩

/-- Any block. -/
def anyB (_ : Nat) : Prop := True
theorem holdsS_one {D : Nat} {S : Nat → Prop} {W : World} {x : TV} {cx : List Nd} (hx : HoldsS D S W x.val cx) {b : Nat} (hS : S b)
    (hb : W.heap[b]? = some (.cells #[.int .i64 x.k, .int .i64 x.N, .string x.s, .slice x.a x.len x.cap] 24 (0, 0))) (s : ByteArray) (hs : s.size ≤ 9223372036854775807) :
    HoldsS (D + 1) S W (compV s (some ⟨b, 0, none⟩) 1 1).val ((4, 0, s.toList, 1) :: cx) := fun m hm hlm => by
  obtain ⟨M, rfl⟩ : ∃ M, m = M + 1 := ⟨m - 1, by omega⟩
  obtain ⟨t, h1, h2, h3, h4⟩ := hx M (by omega) (by omega)
  have hxt := tv_inj h1
  have hlt := (Array.getElem?_eq_some_iff.1 hb).1
  refine ⟨((compV s (some ⟨b, 0, none⟩) 1 1, [t]) : TV × List (Tm M)), rfl, ⟨rfl, ⟨by simp [Tm.tv, compV], by simp [Tm.tv, compV], hlm⟩, hs, .inr ⟨b, 0, rfl, hlt, fun j u hu => ?_⟩⟩, ⟨.inr ⟨b, 0, rfl, hS⟩, fun u hu => ?_⟩, ?_⟩
  · have hj : j = 0 ∧ u = t := by
      match j, hu with
      | 0, hu => exact ⟨rfl, by simpa [Tm.kids] using hu.symm⟩
      | k + 1, hu => simp [Tm.kids] at hu
    obtain ⟨rfl, rfl⟩ := hj
    refine ⟨?_, h2⟩
    rw [← hxt]
    refine ⟨?_, ?_, ?_, ?_⟩ <;> simp [World.cell?, hb]
  · have : u = t := by simpa [Tm.kids] using hu
    subst this
    exact h3
  · rw [code_succ]
    simp [h4, TV.nd, compV]
theorem holdsS_two {D : Nat} {S : Nat → Prop} {W : World} {x y : TV} {cx cy : List Nd} (hx : HoldsS D S W x.val cx) (hy : HoldsS D S W y.val cy) {b : Nat} (hS : S b)
    (hb : W.heap[b]? = some (.cells #[.int .i64 x.k, .int .i64 x.N, .string x.s, .slice x.a x.len x.cap, .int .i64 y.k, .int .i64 y.N, .string y.s, .slice y.a y.len y.cap] 24 (0, 0))) (s : ByteArray) (hs : s.size ≤ 9223372036854775807) :
    HoldsS (D + 1) S W (compV s (some ⟨b, 0, none⟩) 2 2).val ((4, 0, s.toList, 2) :: (cx ++ cy)) := fun m hm hlm => by
  obtain ⟨M, rfl⟩ : ∃ M, m = M + 1 := ⟨m - 1, by omega⟩
  obtain ⟨t, h1, h2, h3, h4⟩ := hx M (by omega) (by omega)
  obtain ⟨u, k1, k2, k3, k4⟩ := hy M (by omega) (by omega)
  have hxt := tv_inj h1
  have hyt := tv_inj k1
  have hlt := (Array.getElem?_eq_some_iff.1 hb).1
  refine ⟨((compV s (some ⟨b, 0, none⟩) 2 2, [t, u]) : TV × List (Tm M)), rfl, ⟨rfl, ⟨by simp [Tm.tv, compV], by simp [Tm.tv, compV], hlm⟩, hs, .inr ⟨b, 0, rfl, hlt, fun j v hv => ?_⟩⟩, ⟨.inr ⟨b, 0, rfl, hS⟩, fun v hv => ?_⟩, ?_⟩
  · have hj : (j = 0 ∧ v = t) ∨ (j = 1 ∧ v = u) := by
      match j, hv with
      | 0, hv => exact .inl ⟨rfl, by simpa [Tm.kids] using hv.symm⟩
      | 1, hv => exact .inr ⟨rfl, by simpa [Tm.kids] using hv.symm⟩
      | k + 2, hv => simp [Tm.kids] at hv
    rcases hj with ⟨rfl, rfl⟩ | ⟨rfl, rfl⟩
    · refine ⟨?_, h2⟩
      rw [← hxt]
      refine ⟨?_, ?_, ?_, ?_⟩ <;> simp [World.cell?, hb]
    · refine ⟨?_, k2⟩
      rw [← hyt]
      refine ⟨?_, ?_, ?_, ?_⟩ <;> simp [World.cell?, hb]
  · have : v = t ∨ v = u := by simpa [Tm.kids] using hv
    rcases this with rfl | rfl
    · exact h3
    · exact k3
  · rw [code_succ]
    simp [h4, k4, TV.nd, compV]
theorem mix_set4 {D ns lo : Nat} {W : World} {v : Value} {c : List Nd} (h : HoldsS D (Mix ns lo) W v c) {b : Nat} (h1 : ns ≤ b) (h2 : b < lo) (o : Nat) (x : TV) : HoldsS D (Mix ns lo) (set4 W b o x) v c := fun m hm hlm => by
  obtain ⟨t, k1, k2, k3, k4⟩ := h m hm hlm
  exact ⟨t, k1, by rw [set4_size]; exact k2.fromS (fun q hq => set4_other W b o x (by unfold Mix at hq; omega)) k3, k3, k4⟩
theorem mix_mono {D D' ns lo lo' : Nat} {W : World} {v : Value} {c : List Nd} (h : HoldsS D (Mix ns lo) W v c) (hD : D ≤ D') (hl : lo' ≤ lo) : HoldsS D' (Mix ns lo') W v c := h.mono hD fun b hb => by unfold Mix at hb ⊢; omega
/-- A term that was handed in, as one that shares memory. -/
theorem mix_of {n ns : Nat} {W : World} {t : Tm n} (hT : IsT ns W t) (hns : ns ≤ W.heap.size) (lo : Nat) : HoldsS n (Mix ns lo) W t.tv.val (code t) :=
  holdsS_of (hT.mono hns) (hT.blk.mono fun _ h => .inl h)

/-- `,`, `;` and `->` of two. -/
def junct (x : TV) : Bool := isB x [44] 2 || (isB x [59] 2 || isB x [45, 62] 2)
def callL : List UInt8 := [99, 97, 108, 108]
def bodyJ (s : List UInt8) : List (Option (List Nd)) → Option (List Nd)
  | [some x, some y] => some ((4, 0, s, 2) :: (x ++ y))
  | _ => none
/-- The code of a body. -/
def bodyC : {n : Nat} → Tm n → Option (List Nd)
  | 0, t => Empty.elim t
  | _ + 1, t => if t.tv.k = 1 then some ((4, 0, callL, 1) :: code t) else if t.tv.k = 2 then none else if junct t.tv = true then bodyJ t.tv.s.toList (t.kids.map bodyC) else some (code t)
/-- What a term's value is, by the code of a body. -/
def BodyIs (D ns lo : Nat) (W : World) (x : TV) : Option (List Nd) → Prop
  | some c => HoldsS D (Mix ns lo) W x.val c
  | none => x = noTerm
def BSays (D ns lo : Nat) (r : Option (List Nd)) (e : Ending) (W' : World) : Prop := ∃ x : TV, e = .returned (.tuple #[x.val, .bool r.isSome]) ∧ BodyIs D ns lo W' x r

theorem callL_eq : (⟨#[99, 97, 108, 108]⟩ : ByteArray).toList = callL := by decide +kernel
set_option maxRecDepth 100000 in
set_option maxHeartbeats 1000000 in
theorem rbody_var {n : Nat} (t : Tm n) (ns : Nat) (W : World) (hT : IsT ns W t) (hns : ns ≤ W.heap.size) (hk : t.tv.k = 1) :
    Calls Tryd.prog 13 #[t.tv.val] W fun e W' => BSays (n + 1) ns W.heap.size (some ((4, 0, callL, 1) :: code t)) e W' ∧ Below W.heap.size W W' := by
  have hc := rcompound_any ⟨#[99, 97, 108, 108]⟩
  simp only [compV, TV.val] at hc
  obtain ⟨⟨k, N, s, a, len, cap⟩, hx⟩ : ∃ x : TV, t.tv = x := ⟨_, rfl⟩
  rw [hx] at hk ⊢
  simp only at hk
  subst hk
  obtain ⟨W2, hW2, hb2, hs2, bT, hz⟩ := box_zero W ⟨1, N, s, a, len, cap⟩
  have HM : Hid (HoldsS n (Mix ns (W.heap.size + 2)) W2 (⟨1, N, s, a, len, cap⟩ : TV).val (code t)) := by
    have h := mix_of (hT.below (hb2.mono hns)) (by omega) (W.heap.size + 2)
    rw [hx] at h
    exact h
  have bZ : BoxT W2 (W.heap.size + 1) noTerm := hz
  have HBZ := hide bZ
  clear hz bZ hT hx
  simp only [TV.val] at hW2 ⊢
  have c0 := bT.c0
  have c1 := bT.c1
  have c2 := bT.c2
  have c3 := bT.c3
  simp only at c0 c1 c2 c3
  clear bT
  go_enter Tryd.func13, Tryd.ntmps13
  go_wp2_with fail
  try rw [hW2]
  refine (hc _ _ _ _).mono ?_
  rintro e W4 ⟨rfl, hb4⟩
  try rw [hW2] at hb4
  clear hc hW2 c0 c1 c2 c3
  have s4 := hb4.size
  simp only [World.size_alloc] at s4
  have hb3 : Below W2.heap.size W2 W4 := ((Below.refl _ W2).alloc (Nat.le_refl _) _).trans (hb4.mono (by simp))
  have hblk : W4.heap[W2.heap.size]? = some (.cells #[.int .i64 1, .int .i64 N, .string s, .slice a len cap] 24 (0, 0)) := (hb4.block _ (by simp)).trans (World.alloc_heap_new _ _)
  rw [hs2] at hblk
  have bZ4 : BoxT W4 (W.heap.size + 1) noTerm := (unhide HBZ).below hb3 (by omega)
  have z0 := bZ4.c0
  have z1 := bZ4.c1
  have z2 := bZ4.c2
  have z3 := bZ4.c3
  obtain ⟨y0, y1, y2, y3⟩ := bZ4.frz
  have h1 := holdsS_one (x := ⟨1, N, s, a, len, cap⟩) ((show HoldsS _ _ _ _ _ from HM.out).below hb3) (b := W.heap.size + 2) (by unfold Mix; omega) hblk ⟨#[99, 97, 108, 108]⟩ (by show (4 : Nat) ≤ _; omega)
  rw [callL_eq] at h1
  have HF : Hid (HoldsS (n + 1) (Mix ns W.heap.size) (set4 W4 (W.heap.size + 1) 0 (compV ⟨#[99, 97, 108, 108]⟩ (some ⟨W.heap.size + 2, 0, none⟩) 1 1)) (compV ⟨#[99, 97, 108, 108]⟩ (some ⟨W.heap.size + 2, 0, none⟩) 1 1).val ((4, 0, callL, 1) :: code t) ∧ Below W.heap.size W (set4 W4 (W.heap.size + 1) 0 (compV ⟨#[99, 97, 108, 108]⟩ (some ⟨W.heap.size + 2, 0, none⟩) 1 1))) :=
    ⟨mix_mono (mix_set4 h1 (by omega) (by omega) 0 _) (Nat.le_refl _) (by omega), set4_below (hb2.trans (hb3.mono (by omega))) (by omega) 0 _⟩
  clear h1 bZ4 hblk hb3 hb4
  go_wp2_with fail
  exact bodyPost_ret (v := .tuple #[(compV ⟨#[99, 97, 108, 108]⟩ (some ⟨W.heap.size + 2, 0, none⟩) 1 1).val, .bool true]) (by simp [results, Tryd.results13, go_sem, TV.val, compV, noTerm, z0, z1, z2, z3]) rfl ⟨⟨_, rfl, HF.out.1⟩, HF.out.2⟩

set_option maxRecDepth 100000 in
set_option maxHeartbeats 1000000 in
theorem rbody_int (ns lo : Nat) (N : Int) (s : ByteArray) (a : Option Addr) (len cap : Nat) (W : World) :
    Calls Tryd.prog 13 #[.agg #[.int .i64 2, .int .i64 N, .string s, .slice a len cap]] W fun e W' => BSays 0 ns lo none e W' ∧ Below W.heap.size W W' := by
  go_enter Tryd.func13, Tryd.ntmps13
  go_wp2
  exact bodyPost_ret (v := .tuple #[noTerm.val, .bool false]) (by simp [results, Tryd.results13, go_sem, TV.val, noTerm]) rfl ⟨⟨noTerm, rfl, rfl⟩, ((Below.refl _ _).alloc (Nat.le_refl _) _).alloc (by simp) _⟩

set_option maxRecDepth 100000 in
set_option maxHeartbeats 1000000 in
theorem rbody_else {n : Nat} (t : Tm n) (ns : Nat) (W : World) (hT : IsT ns W t) (hns : ns ≤ W.heap.size) (hk1 : t.tv.k ≠ 1) (hk2 : t.tv.k ≠ 2) (hj : junct t.tv = false) :
    Calls Tryd.prog 13 #[t.tv.val] W fun e W' => BSays n ns W.heap.size (some (code t)) e W' ∧ Below W.heap.size W W' := by
  simp only [junct, Bool.or_eq_false_iff] at hj
  obtain ⟨j1, j2, j3⟩ := hj
  have i1 := ris_any t.tv ⟨#[44]⟩ 2
  have i2 := ris_any t.tv ⟨#[59]⟩ 2
  have i3 := ris_any t.tv ⟨#[45, 62]⟩ 2
  rw [show (⟨#[44]⟩ : ByteArray).toList = [44] by decide +kernel, j1] at i1
  rw [show (⟨#[59]⟩ : ByteArray).toList = [59] by decide +kernel, j2] at i2
  rw [show (⟨#[45, 62]⟩ : ByteArray).toList = [45, 62] by decide +kernel, j3] at i3
  clear j1 j2 j3
  obtain ⟨W2, hW2, hb2, hs2, bT, hz⟩ := box_zero W t.tv
  have HM : Hid (HoldsS n (Mix ns W.heap.size) W t.tv.val (code t)) := mix_of hT hns _
  have hk1' : (t.tv.k == 1) = false := by simp [hk1]
  have hk2' : (t.tv.k == 2) = false := by simp [hk2]
  have bZ : BoxT W2 (W.heap.size + 1) noTerm := hz
  have HBZ := hide bZ
  have HBT := hide bT
  have c0 := bT.c0
  have c1 := bT.c1
  have c2 := bT.c2
  have c3 := bT.c3
  clear hz bZ hT hk1 hk2 bT
  simp only [TV.val] at i1 i2 i3 ⊢
  go_enter Tryd.func13, Tryd.ntmps13
  go_wp2_with fail
  refine (i1 _).mono ?_
  rintro e W3 ⟨rfl, hb3⟩
  try rw [hW2] at hb3
  clear i1 hW2 c0 c1 c2 c3
  have s3 := hb3.size
  have bT3 := (unhide HBT).below hb3 (by omega)
  have c0 := bT3.c0
  have c1 := bT3.c1
  have c2 := bT3.c2
  have c3 := bT3.c3
  clear bT3
  go_wp2_with fail
  refine (i2 _).mono ?_
  rintro e W4 ⟨rfl, hb4⟩
  clear i2 c0 c1 c2 c3
  have s4 := hb4.size
  have bT4 := ((unhide HBT).below hb3 (by omega)).below hb4 (by omega)
  have c0 := bT4.c0
  have c1 := bT4.c1
  have c2 := bT4.c2
  have c3 := bT4.c3
  clear bT4
  go_wp2_with fail
  refine (i3 _).mono ?_
  rintro e W5 ⟨rfl, hb5⟩
  clear i3 c0 c1 c2 c3
  have s5 := hb5.size
  have bT5 := (((unhide HBT).below hb3 (by omega)).below hb4 (by omega)).below hb5 (by omega)
  have bZ5 := (((unhide HBZ).below hb3 (by omega)).below hb4 (by omega)).below hb5 (by omega)
  have c0 := bT5.c0
  have c1 := bT5.c1
  have c2 := bT5.c2
  have c3 := bT5.c3
  have z0 := bZ5.c0
  have z1 := bZ5.c1
  have z2 := bZ5.c2
  have z3 := bZ5.c3
  obtain ⟨y0, y1, y2, y3⟩ := bZ5.frz
  have hB5 : Below W.heap.size W W5 := ((hb2.trans (hb3.mono (by omega))).trans (hb4.mono (by omega))).trans (hb5.mono (by omega))
  have HF : Hid (HoldsS n (Mix ns W.heap.size) (set4 W5 (W.heap.size + 1) 0 t.tv) t.tv.val (code t) ∧ Below W.heap.size W (set4 W5 (W.heap.size + 1) 0 t.tv)) := by
    have hB := set4_below hB5 (b := W.heap.size + 1) (by omega) 0 t.tv
    exact ⟨(show HoldsS _ _ _ _ _ from HM.out).below hB, hB⟩
  clear bT5 bZ5 hB5 hb3 hb4 hb5
  go_wp2_with fail
  exact bodyPost_ret (v := .tuple #[t.tv.val, .bool true]) (by simp [results, Tryd.results13, go_sem, TV.val, noTerm, z0, z1, z2, z3]) rfl ⟨⟨t.tv, rfl, HF.out.1⟩, HF.out.2⟩
end Go.Proofs.YtjdanfhbccpnpaaDoor

