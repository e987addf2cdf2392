import Derived.Test.YtffbhinpmlcopabArD
import Derived.Deep.Cut
/- hornref's evaluable: other numbers of Args. Operations that their guards pass over are passed over at once. -/
namespace Go.Proofs.Ytffbhinpmlcopab
open Go.RowKit Go.Shelf

/-- The next n operations are passed over by their guards. -/
def allOff (ops : Array Oper) : Nat → List Oper → Act → Bool
  | 0, _, _ => true
  | _ + 1, [], _ => false
  | n + 1, o :: r, a => !(Region.wanted o (yielded ops a.tmps)) && allOff ops n r (a.put o.dst undef)
def offs : Nat → List Oper → Act → Act
  | 0, _, a => a
  | _ + 1, [], a => a
  | n + 1, o :: r, a => offs n r (a.put o.dst undef)
theorem wpList_offs {P : Program} {ops : Array Oper} {Q : Exit → Act → World → Prop} {w : World} : ∀ (n : Nat) (l : List Oper) (a : Act), allOff ops n l a = true → wpList P ops Q (l.drop n) (offs n l a) w → wpList P ops Q l a w
  | 0, _, _, _, h => h
  | _ + 1, [], _, h0, _ => by cases h0
  | n + 1, o :: r, a, h0, h => by
    simp only [allOff, Bool.and_eq_true, Bool.not_eq_true'] at h0
    unfold wpList
    rw [if_neg (by rw [h0.1]; exact Bool.false_ne_true)]
    exact wpList_offs n r _ h0.2 h
theorem wpList_skips {P : Program} {ops : Array Oper} {Q : Exit → Act → World → Prop} {w : World} (n : Nat) {l : List Oper} (l' : List Oper) {a : Act} (h1 : allOff ops n l a = true) (h2 : offs n l a = a) (h3 : l.drop n = l') (h : wpList P ops Q l' a w) : wpList P ops Q l a w :=
  wpList_offs n l a h1 (by rw [h2, h3]; exact h)
/-- A goal that no unifier looks into. -/
structure Veiled (p : Prop) : Prop where
  out : p
theorem wpList_veiled {P : Program} {ops : Array Oper} {Q : Exit → Act → World → Prop} {a : Act} {w : World} {rest : List Oper} {o : Oper} (hg : o.guard = none)
    (h : ∀ K : Act → World → Prop, (∀ a w, Veiled (wpList P ops Q rest a w) → K a w) → o.wp P a w K Q) : wpList P ops Q (o :: rest) a w := wpList_plain hg fun K hK => h K fun a w k => hK a w k.out
theorem veiled_skips {P : Program} {ops : Array Oper} {Q : Exit → Act → World → Prop} {w : World} (n : Nat) {l : List Oper} (l' : List Oper) {a : Act} (h1 : allOff ops n l a = true) (h2 : offs n l a = a) (h3 : l.drop n = l') (h : wpList P ops Q l' a w) : Veiled (wpList P ops Q l a w) := ⟨wpList_skips n l' h1 h2 h3 h⟩

set_option maxRecDepth 100000 in
set_option maxHeartbeats 1000000 in
theorem rev_other (s : ByteArray) (k : Int) (e1 : (k == 1) = false) (e2 : (k == 2) = false) (w : World) :
    Calls Try.prog 34 #[.string s, .int .i64 k] w fun e w' => e = .returned (.bool false) ∧ w' = w := by
  go_enter Try.func34, Try.ntmps34
  go_upto_region 3 with fail
  refine wp_region_lit ?_
  refine wpList_plain rfl (fun K hK => ?_)
  go_simp
  refine hK _ _ ?_
  clear hK K
  refine wpList_plain rfl (fun K hK => ?_)
  go_simp
  refine hK _ _ ?_
  clear hK K
  refine wpList_veiled rfl (fun K hK => ?_)
  go_simp
  refine hK _ _ ?_
  refine veiled_skips 66 [{ dst := some 94, op := Op.pick (Operand.tmp 27) (Operand.tmp 93) (Operand.const (Value.bool false)), type := 4, pos := "arith.go:20", after := #[{ on := 2, ground := Ground.data }, { on := 68, ground := Ground.data }], guard := none }, { dst := some 4, op := Op.assign (Operand.tmp 94), type := 4, pos := "arith.go:20", after := ([{ on := 69, ground := Ground.data }, { on := 65, ground := Ground.chain }, { on := 0, ground := Ground.phase }, { on := 1, ground := Ground.phase }, { on := 2, ground := Ground.phase }, { on := 3, ground := Ground.phase }, { on := 4, ground := Ground.phase }, { on := 5, ground := Ground.phase }, { on := 6, ground := Ground.phase }, { on := 7, ground := Ground.phase }, { on := 8, ground := Ground.phase }, { on := 9, ground := Ground.phase }, { on := 10, ground := Ground.phase }, { on := 11, ground := Ground.phase }, { on := 12, ground := Ground.phase }, { on := 13, ground := Ground.phase }, { on := 14, ground := Ground.phase }, { on := 15, ground := Ground.phase }, { on := 16, ground := Ground.phase }, { on := 17, ground := Ground.phase }, { on := 18, ground := Ground.phase }, { on := 19, ground := Ground.phase }, { on := 20, ground := Ground.phase }, { on := 21, ground := Ground.phase }, { on := 22, ground := Ground.phase }, { on := 23, ground := Ground.phase }, { on := 24, ground := Ground.phase }, { on := 25, ground := Ground.phase }, { on := 26, ground := Ground.phase }, { on := 27, ground := Ground.phase }, { on := 28, ground := Ground.phase }, { on := 29, ground := Ground.phase }, { on := 30, ground := Ground.phase }, { on := 31, ground := Ground.phase }, { on := 32, ground := Ground.phase }, { on := 33, ground := Ground.phase }].append [{ on := 34, ground := Ground.phase }, { on := 35, ground := Ground.phase }, { on := 36, ground := Ground.phase }, { on := 37, ground := Ground.phase }, { on := 38, ground := Ground.phase }, { on := 39, ground := Ground.phase }, { on := 40, ground := Ground.phase }, { on := 41, ground := Ground.phase }, { on := 42, ground := Ground.phase }, { on := 43, ground := Ground.phase }, { on := 44, ground := Ground.phase }, { on := 45, ground := Ground.phase }, { on := 46, ground := Ground.phase }, { on := 47, ground := Ground.phase }, { on := 48, ground := Ground.phase }, { on := 49, ground := Ground.phase }, { on := 50, ground := Ground.phase }, { on := 51, ground := Ground.phase }, { on := 52, ground := Ground.phase }, { on := 53, ground := Ground.phase }, { on := 54, ground := Ground.phase }, { on := 55, ground := Ground.phase }, { on := 56, ground := Ground.phase }, { on := 57, ground := Ground.phase }, { on := 58, ground := Ground.phase }, { on := 59, ground := Ground.phase }, { on := 60, ground := Ground.phase }, { on := 61, ground := Ground.phase }, { on := 62, ground := Ground.phase }, { on := 63, ground := Ground.phase }, { on := 64, ground := Ground.phase }, { on := 65, ground := Ground.phase }, { on := 66, ground := Ground.phase }, { on := 67, ground := Ground.phase }, { on := 68, ground := Ground.phase }, { on := 69, ground := Ground.phase }]).toArray, guard := none }] (by kernel_rfl) (by kernel_rfl) (by kernel_rfl) ?_
  clear hK K
  go_wp2
  all_goals go_ret
  all_goals exact ⟨rfl, rfl⟩
end Go.Proofs.Ytffbhinpmlcopab

