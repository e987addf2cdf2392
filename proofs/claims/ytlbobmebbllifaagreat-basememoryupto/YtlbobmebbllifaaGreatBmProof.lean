import Derived.Test.YtlbobmebbllifaaGreatBmH
import Derived.Test.YtlbobmebbllifaaGreatRows
import Derived.Test.YtlbobmebbllifaaGreatOs
import Derived.ProofKit
import Derived.OpenShut
import Derived.JoinedCond
import Derived.Carry
/- Proved here: hornkeep.BaseMemory returns true at any two arguments that can be read as data and are together of bulk at most 1048576, and leaves them, and all else that lay, as they were. -/
namespace Go.Proofs.YtlbobmebbllifaaGreat
open Go.ChangeShapes Go.WideShapes Go.ChangeAt Go.RowKit
theorem bm_own : ownKnob Tryz.prog.godebug = none := by kernel_rfl
theorem bm_laidOut : laidOutB Tryz.prog = true := by kernel_rfl
theorem bulk_bm {H : Type} {d0 d1 : DataW H} (hk : Rows.uptoSmall H ([d0, d1] ++ []) = true) : Rows.uptoBulk d0 + Rows.uptoBulk d1 ≤ 1048576 := by
 have h : Rows.uptoBulkAll [d0, d1] ≤ 1048576 := of_decide_eq_true hk
 simp only [Rows.uptoBulkAll] at h
 omega
theorem bm_num {n : Nat} {t : Tm n} (h : ∀ x ∈ parts t, Nw x) : numC (code t) := fun y hy => by
 obtain ⟨x, hx, rfl⟩ := List.mem_map.1 hy
 exact h x hx
set_option maxRecDepth 100000 in
theorem baseMemory_lifted (os : Os) (started : os.Started) (H : Type) (enc : TypeId × Value → H) (F : Stop.Interp) :
  ReturnsInHanded {} Tryz.checked os 3 .any ((Rows.OpenSpec.upto Rows.baseMemorySpec).pre6 enc Tryz.prog Tryz.f3 Rows.baseMemoryUptoRow.domain false) (((Rows.OpenSpec.upto Rows.baseMemorySpec).at F).post enc Tryz.prog Tryz.f3 false true false false) := by
 refine returnsInHanded_of_cond (C := Tryz.checked) (s := Rows.OpenSpec.upto Rows.baseMemorySpec) (k := Rows.uptoSmall) rfl bm_own started (by kernel_rfl) Tryz.func3
  (OpenSpec.witness (enc := enc) (C := Tryz.checked) (s := Rows.OpenSpec.upto Rows.baseMemorySpec) (k := Rows.uptoSmall) rfl false ⟨#[], #[.slice none 0 0, .agg #[.int .i64 0, .int .i64 0, .string ⟨#[]⟩, .slice none 0 0]], []⟩ 8 (by kernel_rfl) (by kernel_rfl) (by kernel_rfl)
   (x := ([.nil, .agg [.lit (.int .i64 0), .lit (.int .i64 0), .lit (.string []), .nil]], [], [])) (by kernel_rfl) rfl (by kernel_rfl)) ?_
 intro W base args ds gs before hval0 hW _ hk _
 have hval : ∀ (j : Nat) t v, Tryz.f3.params[j]? = some t → args[j]? = some v → Value.okWide Tryz.prog W .any base t v := hval0
 have hW' := hW
 obtain ⟨p, q, hA0, hV, rfl, hfz, hnd⟩ := hW
 have hA : DataW.TrodAll enc Tryz.prog W 0 (fun _ => true) true Tryz.f3.params.toList args.toList ds p := hA0
 rw [Tryz.params3] at hA hval
 obtain ⟨v0, v1, d0, d1, p0, p1, rfl, rfl, rfl, h0, h1⟩ := trodAll_two hA
 obtain ⟨rfl, rfl⟩ := trodVars_none hV
 have hb3 := bulk_bm hk
 obtain ⟨la, ll, lc, e0, b0, o0⟩ := open_terms (hval 0 22 v0 rfl rfl) h0
 obtain ⟨nn, hnn⟩ : ∃ nn, nn = 1048576 := ⟨_, rfl⟩
 obtain ⟨kl, hl, fl⟩ := o0 (nn + 1) (by omega) (by omega)
 obtain ⟨t, ea, ha, hca, hna⟩ := open_arg_nums (hval 1 24 v1 rfl rfl) h1 (nn + 1) (by omega) (by omega)
 have lt0 : ∀ x ∈ p0, x.block < W.heap.size := by obtain ⟨m, hm⟩ := h0; exact DataW.trod_lt m _ _ _ hm
 have lt1 : ∀ x ∈ p1, x.block < W.heap.size := by obtain ⟨m, hm⟩ := h1; exact DataW.trod_lt m _ _ _ hm
 clear hA0 hval0 o0
 have hwalk : Calls Tryz.prog 3 #[v0, v1] W fun e W' => e = .returned (.bool true) ∧ Below W.heap.size W W' := by
  rw [e0, ea]
  exact baseMemory_any la ll lc kl t W hl ha (fun u hu => ⟨by have := (fl u hu).1; omega, bm_num (fl u hu).2⟩) (by omega) (bm_num hna) (by omega)
 refine hwalk.mono fun e W' ⟨he, bel⟩ => ?_
 subst he
 exact ⟨_, rfl, _, _, _, [], _, [], hW', trodAll_mk1 (shut_bool Tryz.underlying4 _), (trodAll_mk2 (Below.trod bm_laidOut (by kernel_rfl) (of_decide_eq_true (by kernel_rfl)) h0 bel lt0) (Below.trod bm_laidOut (by kernel_rfl) (of_decide_eq_true (by kernel_rfl)) h1 bel lt1)), rfl, bel.frame _, fun h => by cases h⟩
theorem baseMemoryUpto : Rows.BaseMemoryUptoSaid :=
 OpenClaim.holds_of_cond 3 Tryz.f3 rfl rfl rfl rfl rfl rfl rfl ⟨rfl, rfl, rfl, rfl, rfl⟩ rfl rfl rfl rfl rfl (by kernel_rfl) Tryz.func3 (by kernel_rfl)
  (of_decide_eq_true (by kernel_rfl)) (by unfold Func.isWrapper; first | (rw [if_pos (by decide +kernel)]; kernel_rfl) | (rw [if_neg (by decide +kernel)]; exact ⟨rfl, rfl⟩))
  (fun os started H enc _ F => baseMemory_lifted os started H enc F)
end Go.Proofs.YtlbobmebbllifaaGreat
