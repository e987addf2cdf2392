import Derived.Test.YtffbhinpmlcopabArB
import Derived.Test.YtffbhinpmlcopabC
/- What a name does: the closures of arith's names.go, and what is found by a name. -/
namespace Go.Proofs.Ytffbhinpmlcopab
open Go.RowKit Go.Shelf

/-- A function value that answers f of two numbers, wherever c holds of them, in every world behind w. -/
def Does (w : World) (v : Value) (c : Int → Int → Prop) (f : Int → Int → Except ByteArray Int) : Prop :=
  ∃ g lb, v = .func (.func g) #[] lb ∧ (∀ args w, (callFunc g args).run Try.prog w = .ok (.enter g args) w) ∧
    ∀ a b W, inR a → inR b → c a b → Below w.heap.size w W → Calls Try.prog g (#[.int .i64 a, .int .i64 b] ++ lb) W fun e W' => e = .returned (ansV (f a b)) ∧ Below W.heap.size W W'
/-- A plain function that answers f of two numbers. -/
def Plain (g : Nat) (c : Int → Int → Prop) (f : Int → Int → Int) : Prop :=
  (∀ args w, (callFunc g args).run Try.prog w = .ok (.enter g args) w) ∧
    ∀ a b W, inR a → inR b → c a b → Calls Try.prog g #[.int .i64 a, .int .i64 b] W fun e W' => e = .returned (.int .i64 (f a b)) ∧ Below W.heap.size W W'
theorem Does.of {g : Nat} {c : Int → Int → Prop} {f : Int → Int → Except ByteArray Int} (eg : ∀ args w, (callFunc g args).run Try.prog w = .ok (.enter g args) w)
    (h : ∀ a b W, inR a → inR b → c a b → Calls Try.prog g #[.int .i64 a, .int .i64 b] W fun e W' => e = .returned (ansV (f a b)) ∧ Below W.heap.size W W') (w : World) : Does w (.func (.func g) #[] #[]) c f :=
  ⟨g, #[], rfl, eg, fun a b W ha hb hc _ => by simpa using h a b W ha hb hc⟩
theorem Does.mono {w w' : World} {v : Value} {c : Int → Int → Prop} {f : Int → Int → Except ByteArray Int} (h : Does w v c f) (hb : Below w.heap.size w w') : Does w' v c f := by
  obtain ⟨g, lb, h1, h2, h3⟩ := h
  exact ⟨g, lb, h1, h2, fun a b W ha hb' hc hW => h3 a b W ha hb' hc (hb.trans (hW.mono hb.size))⟩

set_option maxHeartbeats 1000000 in
theorem always1_any (g : Nat) (c : Int → Int → Prop) (f : Int → Int → Int) (hg : Plain g c f) (a b : Int) (ha : inR a) (hb : inR b) (hc : c a b) (P : Nat) (W : World) (hP : Boxed W P 152 (.func (.func g) #[] #[])) :
    Calls Try.prog 132 #[.int .i64 a, .int .i64 b, .pointer (some ⟨P, 0, none⟩)] W fun e W' => e = .returned (ansV (.ok (f a b))) ∧ Below W.heap.size W W' := by
  obtain ⟨eg, hg⟩ := hg
  have hcall := hg a b W ha hb hc
  have hcell := hP.cell
  clear hg hP
  generalize f a b = n at *
  go_enter Try.func132, Try.ntmps132
  go_wp2_with fail
  refine hcall.mono ?_
  rintro e w' ⟨rfl, hB⟩
  go_wp2_with fail
  go_ret2
  exact ⟨rfl, hB⟩
set_option maxHeartbeats 1000000 in
theorem always_any (g : Nat) (c : Int → Int → Prop) (f : Int → Int → Int) (hg : Plain g c f) (w : World) :
    Calls Try.prog 101 #[.func (.func g) #[] #[]] w fun e W' => ∃ v, e = .returned v ∧ Below w.heap.size w W' ∧ Does W' v c (fun a b => .ok (f a b)) := by
  have hbox := Boxed.new w 152 (.func (.func g) #[] #[])
  have hB : Below w.heap.size w (w.alloc (.cells #[.func (.func g) #[] #[]] 152)) := (Below.refl _ w).alloc (Nat.le_refl _) _
  have H1 : Hid (Does (w.alloc (.cells #[.func (.func g) #[] #[]] 152)) (.func (.func 132) #[] #[.pointer (some ⟨w.heap.size, 0, none⟩)]) c (fun a b => .ok (f a b))) :=
    ⟨_, _, rfl, enters_of Try.func132 (by kernel_rfl) rfl, fun a b W ha hb hc hW => always1_any g c f hg a b ha hb hc _ W ((hW.block _ hbox.lt).trans hbox)⟩
  clear hg hbox
  go_enter Try.func101, Try.ntmps101
  go_wp2
  go_ret
  exact ⟨_, rfl, hB, H1.out⟩
theorem Does.shape (x : Except ByteArray Int) : ∃ n s, ansV x = .tuple #[.int .i64 n, .string s] := ansV_shape x

set_option maxHeartbeats 1000000 in
theorem unlessZero1_any (v : Value) (f : Int → Int → Except ByteArray Int) (w : World) (hg : Does w v (fun _ b => b ≠ 0) f) (a b : Int) (ha : inR a) (hb : inR b) (P : Nat) (W : World) (hW : Below w.heap.size w W) (hP : Boxed W P 118 v) :
    Calls Try.prog 134 #[.int .i64 a, .int .i64 b, .pointer (some ⟨P, 0, none⟩)] W fun e W' => e = .returned (ansV (if b = 0 then .error sZero else f a b)) ∧ Below W.heap.size W W' := by
  obtain ⟨g, lb, rfl, eg, hg⟩ := hg
  have hcell := hP.cell
  clear hP
  by_cases h0 : b = 0
  · subst h0
    clear hg
    simp only [if_true]
    go_enter Try.func134, Try.ntmps134
    go_wp2
    all_goals go_ret2
    all_goals exact ⟨rfl, Below.refl _ _⟩
  · have hcall := hg a b W ha hb h0 hW
    simp only [h0, if_false]
    clear hg
    obtain ⟨n, s, hv⟩ := ansV_shape (f a b)
    rw [hv] at hcall ⊢
    clear hv
    go_enter Try.func134, Try.ntmps134
    go_wp2_with fail
    refine hcall.mono ?_
    rintro e w' ⟨rfl, hB⟩
    go_wp2_with fail
    go_ret2
    exact ⟨rfl, hB⟩
set_option maxHeartbeats 1000000 in
theorem unlessZero_any (v : Value) (f : Int → Int → Except ByteArray Int) (w : World) (hg : Does w v (fun _ b => b ≠ 0) f) :
    Calls Try.prog 111 #[v] w fun e W' => ∃ v', e = .returned v' ∧ Below w.heap.size w W' ∧ Does W' v' (fun _ _ => True) (fun a b => if b = 0 then .error sZero else f a b) := by
  have hbox := Boxed.new w 118 v
  have hB : Below w.heap.size w (w.alloc (.cells #[v] 118)) := (Below.refl _ w).alloc (Nat.le_refl _) _
  have H1 : Hid (Does (w.alloc (.cells #[v] 118)) (.func (.func 134) #[] #[.pointer (some ⟨w.heap.size, 0, none⟩)]) (fun _ _ => True) (fun a b => if b = 0 then .error sZero else f a b)) :=
    ⟨_, _, rfl, enters_of Try.func134 (by kernel_rfl) rfl, fun a b W ha hb _ hW => unlessZero1_any v f w hg a b ha hb _ W (hB.trans (hW.mono hB.size)) ((hW.block _ hbox.lt).trans hbox)⟩
  obtain ⟨g, lb, rfl, -, -⟩ := hg
  clear hbox
  go_enter Try.func111, Try.ntmps111
  go_wp2
  go_ret
  exact ⟨_, rfl, hB, H1.out⟩

set_option maxHeartbeats 1000000 in
theorem unlessNegative1_any (v : Value) (f : Int → Int → Except ByteArray Int) (w : World) (hg : Does w v (fun _ b => 0 ≤ b) f) (a b : Int) (ha : inR a) (hb : inR b) (P : Nat) (W : World) (hW : Below w.heap.size w W) (hP : Boxed W P 118 v) :
    Calls Try.prog 135 #[.int .i64 a, .int .i64 b, .pointer (some ⟨P, 0, none⟩)] W fun e W' => e = .returned (ansV (if b < 0 then .error sNeg else f a b)) ∧ Below W.heap.size W W' := by
  obtain ⟨g, lb, rfl, eg, hg⟩ := hg
  have hcell := hP.cell
  clear hP
  by_cases h0 : b < 0
  · clear hg
    simp only [h0, if_true]
    go_enter Try.func135, Try.ntmps135
    go_wp2
    all_goals go_ret2
    all_goals exact ⟨rfl, Below.refl _ _⟩
  · have hcall := hg a b W ha hb (by omega) hW
    simp only [h0, if_false]
    clear hg
    obtain ⟨n, s, hv⟩ := ansV_shape (f a b)
    rw [hv] at hcall ⊢
    clear hv
    go_enter Try.func135, Try.ntmps135
    go_wp2_with fail
    refine hcall.mono ?_
    rintro e w' ⟨rfl, hB⟩
    go_wp2_with fail
    go_ret2
    exact ⟨rfl, hB⟩
set_option maxHeartbeats 1000000 in
theorem unlessNegative_any (v : Value) (f : Int → Int → Except ByteArray Int) (w : World) (hg : Does w v (fun _ b => 0 ≤ b) f) :
    Calls Try.prog 119 #[v] w fun e W' => ∃ v', e = .returned v' ∧ Below w.heap.size w W' ∧ Does W' v' (fun _ _ => True) (fun a b => if b < 0 then .error sNeg else f a b) := by
  have hbox := Boxed.new w 118 v
  have hB : Below w.heap.size w (w.alloc (.cells #[v] 118)) := (Below.refl _ w).alloc (Nat.le_refl _) _
  have H1 : Hid (Does (w.alloc (.cells #[v] 118)) (.func (.func 135) #[] #[.pointer (some ⟨w.heap.size, 0, none⟩)]) (fun _ _ => True) (fun a b => if b < 0 then .error sNeg else f a b)) :=
    ⟨_, _, rfl, enters_of Try.func135 (by kernel_rfl) rfl, fun a b W ha hb _ hW => unlessNegative1_any v f w hg a b ha hb _ W (hB.trans (hW.mono hB.size)) ((hW.block _ hbox.lt).trans hbox)⟩
  obtain ⟨g, lb, rfl, -, -⟩ := hg
  clear hbox
  go_enter Try.func119, Try.ntmps119
  go_wp2
  go_ret
  exact ⟨_, rfl, hB, H1.out⟩
end Go.Proofs.Ytffbhinpmlcopab

