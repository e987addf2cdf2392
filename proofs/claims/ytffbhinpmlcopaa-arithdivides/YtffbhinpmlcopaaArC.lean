import Derived.Test.YtffbhinpmlcopaaArB
import Derived.Test.YtffbhinpmlcopaaC
/- What a name does: the closures of arith's names.go, and what is found by a name. -/
namespace Go.Proofs.Ytffbhinpmlcopaa
open Go.RowKit Go.Shelf

/-- A function value that answers f of two numbers, wherever c holds of them, in every world behind w. -/
def Does (w : World) (v : Value) (c : Int → Int → Prop) (f : Int → Int → Except ByteArray Int) : Prop :=
  ∃ g lb, v = .func (.func g) #[] lb ∧ (∀ args w, (callFunc g args).run Try.prog w = .ok (.enter g args) w) ∧
    ∀ a b W, inR a → inR b → c a b → Below w.heap.size w W → Calls Try.prog g (#[.int .i64 a, .int .i64 b] ++ lb) W fun e W' => e = .returned (ansV (f a b)) ∧ Below W.heap.size W W'
/-- A plain function that answers f of two numbers. -/
def Plain (g : Nat) (c : Int → Int → Prop) (f : Int → Int → Int) : Prop :=
  (∀ args w, (callFunc g args).run Try.prog w = .ok (.enter g args) w) ∧
    ∀ a b W, inR a → inR b → c a b → Calls Try.prog g #[.int .i64 a, .int .i64 b] W fun e W' => e = .returned (.int .i64 (f a b)) ∧ Below W.heap.size W W'
theorem Does.of {g : Nat} {c : Int → Int → Prop} {f : Int → Int → Except ByteArray Int} (eg : ∀ args w, (callFunc g args).run Try.prog w = .ok (.enter g args) w)
    (h : ∀ a b W, inR a → inR b → c a b → Calls Try.prog g #[.int .i64 a, .int .i64 b] W fun e W' => e = .returned (ansV (f a b)) ∧ Below W.heap.size W W') (w : World) : Does w (.func (.func g) #[] #[]) c f :=
  ⟨g, #[], rfl, eg, fun a b W ha hb hc _ => by simpa using h a b W ha hb hc⟩
theorem Does.mono {w w' : World} {v : Value} {c : Int → Int → Prop} {f : Int → Int → Except ByteArray Int} (h : Does w v c f) (hb : Below w.heap.size w w') : Does w' v c f := by
  obtain ⟨g, lb, h1, h2, h3⟩ := h
  exact ⟨g, lb, h1, h2, fun a b W ha hb' hc hW => h3 a b W ha hb' hc (hb.trans (hW.mono hb.size))⟩

set_option maxHeartbeats 1000000 in
theorem always1_any (g : Nat) (c : Int → Int → Prop) (f : Int → Int → Int) (hg : Plain g c f) (a b : Int) (ha : inR a) (hb : inR b) (hc : c a b) (P : Nat) (W : World) (hP : Boxed W P 132 (.func (.func g) #[] #[])) :
    Calls Try.prog 114 #[.int .i64 a, .int .i64 b, .pointer (some ⟨P, 0, none⟩)] W fun e W' => e = .returned (ansV (.ok (f a b))) ∧ Below W.heap.size W W' := by
  obtain ⟨eg, hg⟩ := hg
  have hcall := hg a b W ha hb hc
  have hcell := hP.cell
  clear hg hP
  generalize f a b = n at *
  go_enter Try.func114, Try.ntmps114
  go_wp2_with fail
  refine hcall.mono ?_
  rintro e w' ⟨rfl, hB⟩
  go_wp2_with fail
  go_ret2
  exact ⟨rfl, hB⟩
set_option maxHeartbeats 1000000 in
theorem always_any (g : Nat) (c : Int → Int → Prop) (f : Int → Int → Int) (hg : Plain g c f) (w : World) :
    Calls Try.prog 89 #[.func (.func g) #[] #[]] w fun e W' => ∃ v, e = .returned v ∧ Below w.heap.size w W' ∧ Does W' v c (fun a b => .ok (f a b)) := by
  have hbox := Boxed.new w 132 (.func (.func g) #[] #[])
  have hB : Below w.heap.size w (w.alloc (.cells #[.func (.func g) #[] #[]] 132)) := (Below.refl _ w).alloc (Nat.le_refl _) _
  have H1 : Hid (Does (w.alloc (.cells #[.func (.func g) #[] #[]] 132)) (.func (.func 114) #[] #[.pointer (some ⟨w.heap.size, 0, none⟩)]) c (fun a b => .ok (f a b))) :=
    ⟨_, _, rfl, enters_of Try.func114 (by kernel_rfl) rfl, fun a b W ha hb hc hW => always1_any g c f hg a b ha hb hc _ W ((hW.block _ hbox.lt).trans hbox)⟩
  clear hg hbox
  go_enter Try.func89, Try.ntmps89
  go_wp2
  go_ret
  exact ⟨_, rfl, hB, H1.out⟩
theorem Does.shape (x : Except ByteArray Int) : ∃ n s, ansV x = .tuple #[.int .i64 n, .string s] := ansV_shape x

set_option maxHeartbeats 1000000 in
theorem unlessZero1_any (v : Value) (f : Int → Int → Except ByteArray Int) (w : World) (hg : Does w v (fun _ b => b ≠ 0) f) (a b : Int) (ha : inR a) (hb : inR b) (P : Nat) (W : World) (hW : Below w.heap.size w W) (hP : Boxed W P 105 v) :
    Calls Try.prog 115 #[.int .i64 a, .int .i64 b, .pointer (some ⟨P, 0, none⟩)] W fun e W' => e = .returned (ansV (if b = 0 then .error sZero else f a b)) ∧ Below W.heap.size W W' := by
  obtain ⟨g, lb, rfl, eg, hg⟩ := hg
  have hcell := hP.cell
  clear hP
  by_cases h0 : b = 0
  · subst h0
    clear hg
    simp only [if_true]
    go_enter Try.func115, Try.ntmps115
    go_wp2
    all_goals go_ret2
    all_goals exact ⟨rfl, Below.refl _ _⟩
  · have hcall := hg a b W ha hb h0 hW
    simp only [h0, if_false]
    clear hg
    obtain ⟨n, s, hv⟩ := ansV_shape (f a b)
    rw [hv] at hcall ⊢
    clear hv
    go_enter Try.func115, Try.ntmps115
    go_wp2_with fail
    refine hcall.mono ?_
    rintro e w' ⟨rfl, hB⟩
    go_wp2_with fail
    go_ret2
    exact ⟨rfl, hB⟩
set_option maxHeartbeats 1000000 in
theorem unlessZero_any (v : Value) (f : Int → Int → Except ByteArray Int) (w : World) (hg : Does w v (fun _ b => b ≠ 0) f) :
    Calls Try.prog 98 #[v] w fun e W' => ∃ v', e = .returned v' ∧ Below w.heap.size w W' ∧ Does W' v' (fun _ _ => True) (fun a b => if b = 0 then .error sZero else f a b) := by
  have hbox := Boxed.new w 105 v
  have hB : Below w.heap.size w (w.alloc (.cells #[v] 105)) := (Below.refl _ w).alloc (Nat.le_refl _) _
  have H1 : Hid (Does (w.alloc (.cells #[v] 105)) (.func (.func 115) #[] #[.pointer (some ⟨w.heap.size, 0, none⟩)]) (fun _ _ => True) (fun a b => if b = 0 then .error sZero else f a b)) :=
    ⟨_, _, rfl, enters_of Try.func115 (by kernel_rfl) rfl, fun a b W ha hb _ hW => unlessZero1_any v f w hg a b ha hb _ W (hB.trans (hW.mono hB.size)) ((hW.block _ hbox.lt).trans hbox)⟩
  obtain ⟨g, lb, rfl, -, -⟩ := hg
  clear hbox
  go_enter Try.func98, Try.ntmps98
  go_wp2
  go_ret
  exact ⟨_, rfl, hB, H1.out⟩

set_option maxHeartbeats 1000000 in
theorem unlessNegative1_any (v : Value) (f : Int → Int → Except ByteArray Int) (w : World) (hg : Does w v (fun _ b => 0 ≤ b) f) (a b : Int) (ha : inR a) (hb : inR b) (P : Nat) (W : World) (hW : Below w.heap.size w W) (hP : Boxed W P 105 v) :
    Calls Try.prog 116 #[.int .i64 a, .int .i64 b, .pointer (some ⟨P, 0, none⟩)] W fun e W' => e = .returned (ansV (if b < 0 then .error sNeg else f a b)) ∧ Below W.heap.size W W' := by
  obtain ⟨g, lb, rfl, eg, hg⟩ := hg
  have hcell := hP.cell
  clear hP
  by_cases h0 : b < 0
  · clear hg
    simp only [h0, if_true]
    go_enter Try.func116, Try.ntmps116
    go_wp2
    all_goals go_ret2
    all_goals exact ⟨rfl, Below.refl _ _⟩
  · have hcall := hg a b W ha hb (by omega) hW
    simp only [h0, if_false]
    clear hg
    obtain ⟨n, s, hv⟩ := ansV_shape (f a b)
    rw [hv] at hcall ⊢
    clear hv
    go_enter Try.func116, Try.ntmps116
    go_wp2_with fail
    refine hcall.mono ?_
    rintro e w' ⟨rfl, hB⟩
    go_wp2_with fail
    go_ret2
    exact ⟨rfl, hB⟩
set_option maxHeartbeats 1000000 in
theorem unlessNegative_any (v : Value) (f : Int → Int → Except ByteArray Int) (w : World) (hg : Does w v (fun _ b => 0 ≤ b) f) :
    Calls Try.prog 106 #[v] w fun e W' => ∃ v', e = .returned v' ∧ Below w.heap.size w W' ∧ Does W' v' (fun _ _ => True) (fun a b => if b < 0 then .error sNeg else f a b) := by
  have hbox := Boxed.new w 105 v
  have hB : Below w.heap.size w (w.alloc (.cells #[v] 105)) := (Below.refl _ w).alloc (Nat.le_refl _) _
  have H1 : Hid (Does (w.alloc (.cells #[v] 105)) (.func (.func 116) #[] #[.pointer (some ⟨w.heap.size, 0, none⟩)]) (fun _ _ => True) (fun a b => if b < 0 then .error sNeg else f a b)) :=
    ⟨_, _, rfl, enters_of Try.func116 (by kernel_rfl) rfl, fun a b W ha hb _ hW => unlessNegative1_any v f w hg a b ha hb _ W (hB.trans (hW.mono hB.size)) ((hW.block _ hbox.lt).trans hbox)⟩
  obtain ⟨g, lb, rfl, -, -⟩ := hg
  clear hbox
  go_enter Try.func106, Try.ntmps106
  go_wp2
  go_ret
  exact ⟨_, rfl, hB, H1.out⟩
end Go.Proofs.Ytffbhinpmlcopaa

