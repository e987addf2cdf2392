import Derived.Test.YtffbhinpmlcopabRows
import Derived.Test.YtffbhinpmlcopabArZd
import Derived.Test.YtffbhinpmlcopabOb
import Derived.Test.YtffbhinpmlcopabOz
import Derived.ProofKit
import Derived.OpenShut
import Derived.JoinedCond
/- Proved here: hornkeep.ArithFolds returns true at any term and any list of binds that can be read as data and are together of bulk at most 1048576, and leaves them, and all else that lay, as they were. -/
namespace Go.Proofs.Ytffbhinpmlcopab
open Go.ChangeShapes Go.WideShapes Go.ChangeAt Go.RowKit

theorem folds_own : ownKnob Try.prog.godebug = none := by kernel_rfl
theorem folds_laidOut : laidOutB Try.prog = true := by kernel_rfl

theorem folds_bulk {H : Type} {d0 d1 : DataW H} (hk : Rows.uptoSmall H ([d0, d1] ++ []) = true) : Rows.uptoBulk d0 + Rows.uptoBulk d1 ≤ 1048576 := by
  have h : Rows.uptoBulkAll [d0, d1] ≤ 1048576 := of_decide_eq_true hk
  simp only [Rows.uptoBulkAll] at h
  omega

set_option maxRecDepth 100000 in
theorem arithFolds_lifted (os : Os) (started : os.Started) (H : Type) (enc : TypeId × Value → H) (F : Stop.Interp) :
    ReturnsInHanded {} Try.checked os 5 .any ((Rows.OpenSpec.upto Rows.arithFoldsSpec).pre6 enc Try.prog Try.f5 Rows.arithFoldsUptoRow.domain false) (((Rows.OpenSpec.upto Rows.arithFoldsSpec).at F).post enc Try.prog Try.f5 false true false false) := by
  refine returnsInHanded_of_cond (C := Try.checked) (s := Rows.OpenSpec.upto Rows.arithFoldsSpec) (k := Rows.uptoSmall) rfl folds_own started (by kernel_rfl) Try.func5
    (OpenSpec.witness (enc := enc) (C := Try.checked) (s := Rows.OpenSpec.upto Rows.arithFoldsSpec) (k := Rows.uptoSmall) rfl false ⟨#[], #[.agg #[.int .i64 0, .int .i64 0, .string ⟨#[]⟩, .slice none 0 0], .slice none 0 0], []⟩ 8 (by kernel_rfl) (by kernel_rfl) (by kernel_rfl)
      (x := ([.agg [.lit (.int .i64 0), .lit (.int .i64 0), .lit (.string []), .nil], .nil], [], [])) (by kernel_rfl) rfl (by kernel_rfl)) ?_
  intro W base args ds gs before hval0 hW _ hk _
  have hval : ∀ (j : Nat) t v, Try.f5.params[j]? = some t → args[j]? = some v → Value.okWide Try.prog W .any base t v := hval0
  have hW' := hW
  obtain ⟨p, q, hA0, hV, rfl, hfz, hnd⟩ := hW
  have hA : DataW.TrodAll enc Try.prog W 0 (fun _ => true) true Try.f5.params.toList args.toList ds p := hA0
  rw [Try.params5] at hA hval
  obtain ⟨v0, v1, d0, d1, p0, p1, rfl, rfl, rfl, h0, h1⟩ := trodAll_two hA
  obtain ⟨rfl, rfl⟩ := trodVars_none hV
  have hb3 := folds_bulk hk
  obtain ⟨a, ea, ha, -, na⟩ := open_argn (hval 0 24 v0 rfl rfl) h0 1048576 (by omega) (by omega)
  obtain ⟨la, ll, lc, e1, -, o1⟩ := open_binds (hval 1 38 v1 rfl rfl) h1
  obtain ⟨bs, hL, nb⟩ := o1 1048576 (by omega) (by omega)
  have lt0 : ∀ x ∈ p0, x.block < W.heap.size := by obtain ⟨m, hm⟩ := h0; exact DataW.trod_lt m _ _ _ hm
  have lt1 : ∀ x ∈ p1, x.block < W.heap.size := by obtain ⟨m, hm⟩ := h1; exact DataW.trod_lt m _ _ _ hm
  clear hA0 hval0 o1
  have hwalk : Calls Try.prog 5 #[v0, v1] W fun e W' => e = .returned (.bool true) ∧ Below W.heap.size W W' := by
    rw [ea, e1]; exact arithFolds_any a bs la ll lc W ha hL na (fun q hq x hx => nb q hq x hx) (by omega) (by omega)
  refine hwalk.mono fun e W' ⟨he, bel⟩ => ?_
  subst he
  exact ⟨_, rfl, _, _, _, [], _, [], hW', trodAll_mk1 (shut_bool Try.underlying4 _), (trodAll_mk2 (Below.trod folds_laidOut (by kernel_rfl) (of_decide_eq_true (by kernel_rfl)) h0 bel lt0) (Below.trod folds_laidOut (by kernel_rfl) (of_decide_eq_true (by kernel_rfl)) h1 bel lt1)), rfl, bel.frame _, fun h => by cases h⟩

theorem arithFoldsUpto : Rows.ArithFoldsUptoSaid :=
  OpenClaim.holds_of_cond 5 Try.f5 rfl rfl rfl rfl rfl rfl rfl ⟨rfl, rfl, rfl, rfl, rfl⟩ rfl rfl rfl rfl rfl (by kernel_rfl) Try.func5 (by kernel_rfl)
    (of_decide_eq_true (by kernel_rfl)) (by unfold Func.isWrapper; first | (rw [if_pos (by decide +kernel)]; kernel_rfl) | (rw [if_neg (by decide +kernel)]; exact ⟨rfl, rfl⟩))
    (fun os started H enc _ F => arithFolds_lifted os started H enc F)
end Go.Proofs.Ytffbhinpmlcopab

