import Derived.Test.YtjdanfhbccpnpaaBdZ
import Derived.ProofKit
import Derived.OpenShut
import Derived.JoinedCond
import Derived.Carry
/- Proved here: hornkeep.BaseView returns true at any four arguments that can be read as data and are together of bulk at most 1048576, and leaves them, and all else that lay, as they were. -/
namespace Go.Proofs.Ytjdanfhbccpnpaa
open Go.ChangeShapes Go.WideShapes Go.ChangeAt Go.RowKit

theorem view_own : ownKnob Try.prog.godebug = none := by kernel_rfl
theorem view_laidOut : laidOutB Try.prog = true := by kernel_rfl
theorem bulk_four {H : Type} {d0 d1 d2 d3 : DataW H} (hk : Rows.uptoSmall H ([d0, d1, d2, d3] ++ []) = true) : Rows.uptoBulk d0 + Rows.uptoBulk d1 + Rows.uptoBulk d2 + Rows.uptoBulk d3 ≤ 1048576 := by
  have h : Rows.uptoBulkAll [d0, d1, d2, d3] ≤ 1048576 := of_decide_eq_true hk
  simp only [Rows.uptoBulkAll] at h
  omega
theorem view_num {n : Nat} {t : Tm n} (h : ∀ x ∈ parts t, Nw x) : numC (code t) := fun y hy => by
  obtain ⟨x, hx, rfl⟩ := List.mem_map.1 hy
  exact h x hx

set_option maxRecDepth 100000 in
theorem baseView_lifted (os : Os) (started : os.Started) (H : Type) (enc : TypeId × Value → H) (F : Stop.Interp) :
    ReturnsInHanded {} Try.checked os 3 .any ((Rows.OpenSpec.upto Rows.baseViewSpec).pre6 enc Try.prog Try.f3 Rows.baseViewUptoRow.domain false) (((Rows.OpenSpec.upto Rows.baseViewSpec).at F).post enc Try.prog Try.f3 false true false false) := by
  refine returnsInHanded_of_cond (C := Try.checked) (s := Rows.OpenSpec.upto Rows.baseViewSpec) (k := Rows.uptoSmall) rfl view_own started (by kernel_rfl) Try.func3
    (OpenSpec.witness (enc := enc) (C := Try.checked) (s := Rows.OpenSpec.upto Rows.baseViewSpec) (k := Rows.uptoSmall) rfl false ⟨#[], #[.slice none 0 0, .slice none 0 0, .agg #[.int .i64 0, .int .i64 0, .string ⟨#[]⟩, .slice none 0 0], .slice none 0 0], []⟩ 8 (by kernel_rfl) (by kernel_rfl) (by kernel_rfl)
      (x := ([.nil, .nil, .agg [.lit (.int .i64 0), .lit (.int .i64 0), .lit (.string []), .nil], .nil], [], [])) (by kernel_rfl) rfl (by kernel_rfl)) ?_
  intro W base args ds gs before hval0 hW _ hk _
  have hval : ∀ (j : Nat) t v, Try.f3.params[j]? = some t → args[j]? = some v → Value.okWide Try.prog W .any base t v := hval0
  have hW' := hW
  obtain ⟨p, q, hA0, hV, rfl, hfz, hnd⟩ := hW
  have hA : DataW.TrodAll enc Try.prog W 0 (fun _ => true) true Try.f3.params.toList args.toList ds p := hA0
  rw [Try.params3] at hA hval
  obtain ⟨v0, v1, v2, v3, d0, d1, d2, d3, p0, p1, p2, p3, rfl, rfl, rfl, h0, h1, h2, h3⟩ := trodAll_four hA
  obtain ⟨rfl, rfl⟩ := trodVars_none hV
  have hb3 := bulk_four hk
  obtain ⟨la, ll, lc, e0, b0, o0⟩ := open_terms (hval 0 22 v0 rfl rfl) h0
  obtain ⟨ma, ml, mc, e1, b1, o1⟩ := open_terms (hval 1 22 v1 rfl rfl) h1
  obtain ⟨nn, hnn⟩ : ∃ nn, nn = 1048576 := ⟨_, rfl⟩
  obtain ⟨oa, ol, oc, ns, e3, b3, ho⟩ := open_ints_row (hval 3 25 v3 rfl rfl) h3
  obtain ⟨kl, hl, fl⟩ := o0 (nn + 1) (by omega) (by omega)
  obtain ⟨km, hm, fm⟩ := o1 (nn + 1) (by omega) (by omega)
  obtain ⟨t, ea, ha, hca, hna⟩ := open_arg_nums (hval 2 24 v2 rfl rfl) h2 (nn + 1) (by omega) (by omega)
  have lt0 : ∀ x ∈ p0, x.block < W.heap.size := by obtain ⟨m, hm⟩ := h0; exact DataW.trod_lt m _ _ _ hm
  have lt1 : ∀ x ∈ p1, x.block < W.heap.size := by obtain ⟨m, hm⟩ := h1; exact DataW.trod_lt m _ _ _ hm
  have lt2 : ∀ x ∈ p2, x.block < W.heap.size := by obtain ⟨m, hm⟩ := h2; exact DataW.trod_lt m _ _ _ hm
  have lt3 : ∀ x ∈ p3, x.block < W.heap.size := by obtain ⟨m, hm⟩ := h3; exact DataW.trod_lt m _ _ _ hm
  clear hA0 hval0 o0 o1
  have hwalk : Calls Try.prog 3 #[v0, v1, v2, v3] W fun e W' => e = .returned (.bool true) ∧ Below W.heap.size W W' := by
    rw [e0, e1, ea, e3]
    exact baseView_any la ma oa ll lc ml mc ol oc kl km ns t W hl hm ho ha (fun u hu => ⟨by have := (fl u hu).1; omega, view_num (fl u hu).2⟩) (fun u hu => ⟨by have := (fm u hu).1; omega, view_num (fm u hu).2⟩) (by omega) (by omega) (by omega) (view_num hna)
  refine hwalk.mono fun e W' ⟨he, bel⟩ => ?_
  subst he
  exact ⟨_, rfl, _, _, _, [], _, [], hW', trodAll_mk1 (shut_bool Try.underlying4 _), (trodAll_mk4 (Below.trod view_laidOut (by kernel_rfl) (of_decide_eq_true (by kernel_rfl)) h0 bel lt0) (Below.trod view_laidOut (by kernel_rfl) (of_decide_eq_true (by kernel_rfl)) h1 bel lt1) (Below.trod view_laidOut (by kernel_rfl) (of_decide_eq_true (by kernel_rfl)) h2 bel lt2) (Below.trod view_laidOut (by kernel_rfl) (of_decide_eq_true (by kernel_rfl)) h3 bel lt3)), rfl, bel.frame _, fun h => by cases h⟩

theorem baseViewUpto : Rows.BaseViewUptoSaid :=
  OpenClaim.holds_of_cond 3 Try.f3 rfl rfl rfl rfl rfl rfl rfl ⟨rfl, rfl, rfl, rfl, rfl⟩ rfl rfl rfl rfl rfl (by kernel_rfl) Try.func3 (by kernel_rfl)
    (of_decide_eq_true (by kernel_rfl)) (by unfold Func.isWrapper; first | (rw [if_pos (by decide +kernel)]; kernel_rfl) | (rw [if_neg (by decide +kernel)]; exact ⟨rfl, rfl⟩))
    (fun os started H enc _ F => baseView_lifted os started H enc F)
end Go.Proofs.Ytjdanfhbccpnpaa

