import Derived.Test.YtjdanfhbccpnpaaRows
import Derived.Test.YtjdanfhbccpnpaaO
import Derived.Test.YtjdanfhbccpnpaaBcK
import Derived.ProofKit
import Derived.OpenShut
import Derived.JoinedCond
/- Proved here: hornkeep.BaseBack returns true at any argument that can be read as data and is of bulk at most 1048576, and leaves it, and all else that lay, as it was. -/
namespace Go.Proofs.Ytjdanfhbccpnpaa
open Go.ChangeShapes Go.WideShapes Go.ChangeAt Go.RowKit

theorem back_own : ownKnob Try.prog.godebug = none := by kernel_rfl
theorem back_laidOut : laidOutB Try.prog = true := by kernel_rfl
theorem bulk_alone {H : Type} {d0 : DataW H} (hk : Rows.uptoSmall H ([d0] ++ []) = true) : Rows.uptoBulk d0 ≤ 1048576 := by
  have h : Rows.uptoBulkAll [d0] ≤ 1048576 := of_decide_eq_true hk
  simp only [Rows.uptoBulkAll] at h
  omega
theorem num_parts {n : Nat} {t : Tm n} (h : ∀ x ∈ parts t, Nw x) : numC (code t) := fun y hy => by
  obtain ⟨x, hx, rfl⟩ := List.mem_map.1 hy
  exact h x hx
theorem back_any {n : Nat} (t : Tm (n + 1)) (W : World) (hT : IsT W.heap.size W t) (hl : (code t).length ≤ 1048576) (hn : numC (code t)) (hn20 : n ≤ 1048576 := by omega) : Calls Try.prog 4 #[t.tv.val] W fun e W' => e = .returned (.bool true) ∧ Below W.heap.size W W' :=
  baseBack_any baseOps 0 (fun w hN hm => thereBase_any baseOps 0 w hN hm) t W trivial (Nat.zero_le _) hT hl hn

set_option maxRecDepth 100000 in
theorem baseBack_lifted (os : Os) (started : os.Started) (H : Type) (enc : TypeId × Value → H) (F : Stop.Interp) :
    ReturnsInHanded {} Try.checked os 4 .any ((Rows.OpenSpec.upto Rows.baseBackSpec).pre6 enc Try.prog Try.f4 Rows.baseBackUptoRow.domain false) (((Rows.OpenSpec.upto Rows.baseBackSpec).at F).post enc Try.prog Try.f4 false true false false) := by
  refine returnsInHanded_of_cond (C := Try.checked) (s := Rows.OpenSpec.upto Rows.baseBackSpec) (k := Rows.uptoSmall) rfl back_own started (by kernel_rfl) Try.func4
    (OpenSpec.witness (enc := enc) (C := Try.checked) (s := Rows.OpenSpec.upto Rows.baseBackSpec) (k := Rows.uptoSmall) rfl false ⟨#[], #[.agg #[.int .i64 0, .int .i64 0, .string ⟨#[]⟩, .slice none 0 0]], []⟩ 8 (by kernel_rfl) (by kernel_rfl) (by kernel_rfl)
      (x := ([.agg [.lit (.int .i64 0), .lit (.int .i64 0), .lit (.string []), .nil]], [], [])) (by kernel_rfl) rfl (by kernel_rfl)) ?_
  intro W base args ds gs before hval0 hW _ hk _
  have hval : ∀ (j : Nat) t v, Try.f4.params[j]? = some t → args[j]? = some v → Value.okWide Try.prog W .any base t v := hval0
  have hW' := hW
  obtain ⟨p, q, hA0, hV, rfl, hfz, hnd⟩ := hW
  have hA : DataW.TrodAll enc Try.prog W 0 (fun _ => true) true Try.f4.params.toList args.toList ds p := hA0
  rw [Try.params4] at hA hval
  obtain ⟨v0, d0, rfl, rfl, h0⟩ := trodAll_one hA
  obtain ⟨rfl, rfl⟩ := trodVars_none hV
  have hb3 := bulk_alone hk
  obtain ⟨nn, hnn⟩ : ∃ nn, nn = 1048576 := ⟨_, rfl⟩
  obtain ⟨a, ea, ha, hca, hna⟩ := open_arg_nums (hval 0 24 v0 rfl rfl) h0 (nn + 1) (by omega) (by omega)
  have lt0 : ∀ x ∈ p, x.block < W.heap.size := by obtain ⟨m, hm⟩ := h0; exact DataW.trod_lt m _ _ _ hm
  clear hA0 hval0
  have hwalk : Calls Try.prog 4 #[v0] W fun e W' => e = .returned (.bool true) ∧ Below W.heap.size W W' := by
    rw [ea]; exact back_any a W ha (by omega) (num_parts hna)
  refine hwalk.mono fun e W' ⟨he, bel⟩ => ?_
  subst he
  exact ⟨_, rfl, _, _, _, [], _, [], hW', trodAll_mk1 (shut_bool Try.underlying4 _), (trodAll_mk1 (Below.trod back_laidOut (by kernel_rfl) (of_decide_eq_true (by kernel_rfl)) h0 bel lt0)), rfl, bel.frame _, fun h => by cases h⟩

theorem baseBackUpto : Rows.BaseBackUptoSaid :=
  OpenClaim.holds_of_cond 4 Try.f4 rfl rfl rfl rfl rfl rfl rfl ⟨rfl, rfl, rfl, rfl, rfl⟩ rfl rfl rfl rfl rfl (by kernel_rfl) Try.func4 (by kernel_rfl)
    (of_decide_eq_true (by kernel_rfl)) (by unfold Func.isWrapper; first | (rw [if_pos (by decide +kernel)]; kernel_rfl) | (rw [if_neg (by decide +kernel)]; exact ⟨rfl, rfl⟩))
    (fun os started H enc _ F => baseBack_lifted os started H enc F)
end Go.Proofs.Ytjdanfhbccpnpaa

