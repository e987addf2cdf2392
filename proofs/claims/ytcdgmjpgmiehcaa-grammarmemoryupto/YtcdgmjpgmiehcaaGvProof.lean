import Derived.Test.YtcdgmjpgmiehcaaGvF
import Derived.Test.YtcdgmjpgmiehcaaRows
import Derived.Test.YtcdgmjpgmiehcaaGqZs
import Derived.ProofKit
import Derived.OpenShut
import Derived.JoinedCond
import Derived.Carry
/- Proved here: hornkeep.GrammarMemory returns true at any four arguments that can be read as data and are together of bulk at most 1048576, and leaves them, and all else that lay, as they were. -/
namespace Go.Proofs.Ytcdgmjpgmiehcaa
open Go.ChangeShapes Go.WideShapes Go.ChangeAt Go.RowKit

theorem gv_own : ownKnob Try.prog.godebug = none := by kernel_rfl
theorem gv_laidOut : laidOutB Try.prog = true := by kernel_rfl
theorem gv_bulk {H : Type} {d0 d1 d2 d3 : DataW H} (hk : Rows.uptoSmall H ([d0, d1, d2, d3] ++ []) = true) : Rows.uptoBulk d0 + Rows.uptoBulk d1 + Rows.uptoBulk d2 + Rows.uptoBulk d3 ≤ 1048576 := by
  have h : Rows.uptoBulkAll [d0, d1, d2, d3] ≤ 1048576 := of_decide_eq_true hk
  simp only [Rows.uptoBulkAll] at h
  omega
theorem gv_wide : ∀ {n : Nat} {t : Tm n}, Wl t → ∀ x ∈ code t, x.2.2.2 ≤ (code t).length := by
  intro n
  induction n with
  | zero => intro t; exact Empty.elim t
  | succ n ih =>
    intro t hw x hx
    obtain ⟨y, kids⟩ := t
    have hl : y.len = kids.length := hw.1
    have hk : ∀ (l : List (Tm n)), l.length ≤ (l.flatMap code).length := by
      intro l
      induction l with
      | nil => simp
      | cons u l ihl =>
        have : 1 ≤ (code u).length := by
          cases n with
          | zero => exact Empty.elim u
          | succ n => obtain ⟨z, ks⟩ := u; rw [code_succ]; simp
        rw [List.flatMap_cons, List.length_append, List.length_cons]
        omega
    rw [code_succ] at hx ⊢
    rw [List.length_cons]
    rcases List.mem_cons.1 hx with rfl | hx
    · have := hk kids
      show y.len ≤ _
      omega
    · obtain ⟨u, hu, hxu⟩ := List.mem_flatMap.1 hx
      have h1 := ih (hw.2 u hu) x hxu
      have h2 : (code u).length ≤ (kids.flatMap code).length := by
        obtain ⟨a, b, rfl⟩ := List.append_of_mem hu
        simp
        omega
      omega
def gvF {n : Nat} (a b c d : Tm n) : Nat → Tm n
  | 0 => a
  | 1 => b
  | 2 => c
  | _ => d

set_option maxRecDepth 100000 in
theorem gramMemory_lifted (os : Os) (started : os.Started) (H : Type) (enc : TypeId × Value → H) (F : Stop.Interp) :
    ReturnsInHanded {} Try.checked os 3 .any ((Rows.OpenSpec.upto Rows.grammarMemorySpec).pre6 enc Try.prog Try.f3 Rows.grammarMemoryUptoRow.domain false) (((Rows.OpenSpec.upto Rows.grammarMemorySpec).at F).post enc Try.prog Try.f3 false true false false) := by
  refine returnsInHanded_of_cond (C := Try.checked) (s := Rows.OpenSpec.upto Rows.grammarMemorySpec) (k := Rows.uptoSmall) rfl gv_own started (by kernel_rfl) Try.func3
    (OpenSpec.witness (enc := enc) (C := Try.checked) (s := Rows.OpenSpec.upto Rows.grammarMemorySpec) (k := Rows.uptoSmall) rfl false ⟨#[], #[.agg #[.int .i64 0, .int .i64 0, .string ⟨#[]⟩, .slice none 0 0], .agg #[.int .i64 0, .int .i64 0, .string ⟨#[]⟩, .slice none 0 0], .agg #[.int .i64 0, .int .i64 0, .string ⟨#[]⟩, .slice none 0 0], .agg #[.int .i64 0, .int .i64 0, .string ⟨#[]⟩, .slice none 0 0]], []⟩ 8 (by kernel_rfl) (by kernel_rfl) (by kernel_rfl)
      (x := ([.agg [.lit (.int .i64 0), .lit (.int .i64 0), .lit (.string []), .nil], .agg [.lit (.int .i64 0), .lit (.int .i64 0), .lit (.string []), .nil], .agg [.lit (.int .i64 0), .lit (.int .i64 0), .lit (.string []), .nil], .agg [.lit (.int .i64 0), .lit (.int .i64 0), .lit (.string []), .nil]], [], [])) (by kernel_rfl) rfl (by kernel_rfl)) ?_
  intro W base args ds gs before hval0 hW _ hk _
  have hval : ∀ (j : Nat) t v, Try.f3.params[j]? = some t → args[j]? = some v → Value.okWide Try.prog W .any base t v := hval0
  have hW' := hW
  obtain ⟨p, q, hA0, hV, rfl, hfz, hnd⟩ := hW
  have hA : DataW.TrodAll enc Try.prog W 0 (fun _ => true) true Try.f3.params.toList args.toList ds p := hA0
  rw [Try.params3] at hA hval
  obtain ⟨v0, v1, v2, v3, d0, d1, d2, d3, p0, p1, p2, p3, rfl, rfl, rfl, h0, h1, h2, h3⟩ := trodAll_four hA
  obtain ⟨rfl, rfl⟩ := trodVars_none hV
  have hb3 := gv_bulk hk
  obtain ⟨nn, hnn⟩ : ∃ nn, nn = 1048576 := ⟨_, rfl⟩
  obtain ⟨a, ea, ha, hca, -⟩ := open_arg_nums (hval 0 24 v0 rfl rfl) h0 (nn + 2) (by omega) (by omega)
  obtain ⟨b, eb, hb, hcb, -⟩ := open_arg_nums (hval 1 24 v1 rfl rfl) h1 (nn + 2) (by omega) (by omega)
  obtain ⟨c, ec, hc, hcc, -⟩ := open_arg_nums (hval 2 24 v2 rfl rfl) h2 (nn + 2) (by omega) (by omega)
  obtain ⟨d, ed, hd, hcd, -⟩ := open_arg_nums (hval 3 24 v3 rfl rfl) h3 (nn + 2) (by omega) (by omega)
  have lt0 : ∀ x ∈ p0, x.block < W.heap.size := by obtain ⟨m, hm⟩ := h0; exact DataW.trod_lt m _ _ _ hm
  have lt1 : ∀ x ∈ p1, x.block < W.heap.size := by obtain ⟨m, hm⟩ := h1; exact DataW.trod_lt m _ _ _ hm
  have lt2 : ∀ x ∈ p2, x.block < W.heap.size := by obtain ⟨m, hm⟩ := h2; exact DataW.trod_lt m _ _ _ hm
  have lt3 : ∀ x ∈ p3, x.block < W.heap.size := by obtain ⟨m, hm⟩ := h3; exact DataW.trod_lt m _ _ _ hm
  clear hA0 hval0
  have hT : ∀ j, j < 4 → IsT W.heap.size W (gvF a b c d j) := fun j hj => by
    match j, hj with
    | 0, _ => exact ha
    | 1, _ => exact hb
    | 2, _ => exact hc
    | 3, _ => exact hd
    | j + 4, hj => omega
  have hl : ∀ j, j < 4 → (code (gvF a b c d j)).length ≤ 4194304 := fun j hj => by
    match j, hj with
    | 0, _ => show (code a).length ≤ _; omega
    | 1, _ => show (code b).length ≤ _; omega
    | 2, _ => show (code c).length ≤ _; omega
    | 3, _ => show (code d).length ≤ _; omega
    | j + 4, hj => omega
  have hwalk : Calls Try.prog 3 #[v0, v1, v2, v3] W fun e W' => e = .returned (.bool true) ∧ Below W.heap.size W W' := by
    rw [ea, eb, ec, ed]
    exact gramMemory_any (gvF a b c d) W hT hl (fun j hj x hx => Nat.le_trans (gv_wide (hT j hj).wl x hx) (hl j hj)) (by omega)
  refine hwalk.mono fun e W' ⟨he, bel⟩ => ?_
  subst he
  exact ⟨_, rfl, _, _, _, [], _, [], hW', trodAll_mk1 (shut_bool Try.underlying4 _), (trodAll_mk4 (Below.trod gv_laidOut (by kernel_rfl) (of_decide_eq_true (by kernel_rfl)) h0 bel lt0) (Below.trod gv_laidOut (by kernel_rfl) (of_decide_eq_true (by kernel_rfl)) h1 bel lt1) (Below.trod gv_laidOut (by kernel_rfl) (of_decide_eq_true (by kernel_rfl)) h2 bel lt2) (Below.trod gv_laidOut (by kernel_rfl) (of_decide_eq_true (by kernel_rfl)) h3 bel lt3)), rfl, bel.frame _, fun h => by cases h⟩

theorem grammarMemory_holds : Rows.GrammarMemoryUptoSaid :=
  OpenClaim.holds_of_cond 3 Try.f3 rfl rfl rfl rfl rfl rfl rfl ⟨rfl, rfl, rfl, rfl, rfl⟩ rfl rfl rfl rfl rfl (by kernel_rfl) Try.func3 (by kernel_rfl)
    (of_decide_eq_true (by kernel_rfl)) (by unfold Func.isWrapper; first | (rw [if_pos (by decide +kernel)]; kernel_rfl) | (rw [if_neg (by decide +kernel)]; exact ⟨rfl, rfl⟩))
    (fun os started H enc _ F => gramMemory_lifted os started H enc F)
end Go.Proofs.Ytcdgmjpgmiehcaa

