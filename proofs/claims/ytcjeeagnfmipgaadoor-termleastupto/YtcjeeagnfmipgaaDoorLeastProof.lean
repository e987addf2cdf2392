import Derived.Test.YtcjeeagnfmipgaaDoorCards
import Derived.Test.YtcjeeagnfmipgaaDoorTie
import Derived.Test.YtcjeeagnfmipgaaDoorBj
import Derived.Test.YtcjeeagnfmipgaaDoorGes
import Derived.ProofKit
import Derived.OpenShut
import Derived.JoinedCond
import Derived.Deep.DeepHandedRow
import Derived.Lib.LaidTab
/- Proved here: hornkeep.TermLeast returns true at any three arguments that can be read as data and are together of bulk at most 1048576, and leaves them, and all else that lay, as they were (the card: what the tables hold is tied to the program's text). -/
namespace Go.Proofs.YtcjeeagnfmipgaaDoor
open Go.ChangeShapes Go.WideShapes Go.ChangeAt Go.RowKit

theorem least_own : ownKnob Tryd.prog.godebug = none := by kernel_rfl
theorem least_laidOut : laidOutB Tryd.prog = true := by kernel_rfl
theorem gPow : Tryd.prog.globalNamed "internal/strconv.uint64pow10" = some 0 := by kernel_rfl
theorem gPowType : (Tryd.prog.globals[0]?).map (·.type) = some 113 := by kernel_rfl
theorem pow_under : Tryd.prog.underlying 113 = some (.array 20 95) := by kernel_rfl
theorem pow_elem : Tryd.prog.underlying 95 = some (.int .u64) := by kernel_rfl
theorem pow_one : Tryd.prog.cellsOf 95 = 1 := by kernel_rfl
theorem pow_all : Tryd.prog.cellsOf 113 = 20 := by kernel_rfl
/-- What the row's list gives: the table of powers lies. -/
theorem pow_table {W : World} (h : laidMetH Tryd.prog Rows.termLeastUptoRow.laid W) : Tab W.heap.size W := by
  have h1 : laidMetH Tryd.prog (Rows.termLeastUptoRow.laid.filter fun x => x.1 == "internal/strconv.uint64pow10") W := h.filter _
  have h2 : (Rows.termLeastUptoRow.laid.filter fun x => x.1 == "internal/strconv.uint64pow10") = [("internal/strconv.uint64pow10", Lib.tabData .u64 Lib.pow10Tab)] := by rfl
  rw [h2] at h1
  exact Lib.tabBelow_of_tabIs (Lib.tabIs_of_head (rest := []) gPow gPowType pow_under pow_elem pow_one pow_all h1)
theorem least_three {H : Type} {d0 d1 d2 : DataW H} (hk : Rows.uptoSmall H ([d0, d1, d2] ++ []) = true) : Rows.uptoBulk d0 + Rows.uptoBulk d1 + Rows.uptoBulk d2 ≤ 1048576 := by
  have h : Rows.uptoBulkAll [d0, d1, d2] ≤ 1048576 := of_decide_eq_true hk
  simp only [Rows.uptoBulkAll] at h
  omega

set_option maxRecDepth 100000 in
theorem least_contract (H : Type) (enc : TypeId × Value → H) (W : World) (base : Nat) (args : Array Value) (ds gs : List (DataW H)) (before : List MemPlace)
    (hval : ∀ (j : Nat) t v, Tryd.f3.params[j]? = some t → args[j]? = some v → Value.okWide Tryd.prog W .any base t v)
    (hW : DataW.Whole enc Tryd.prog Tryd.f3.params.toList Rows.termLeastSpec.vars false W args.toList ds gs before) (hk : Rows.uptoSmall H (ds ++ gs) = true) (hL : laidMetH Tryd.prog Rows.termLeastUptoRow.laid W) :
    Calls Tryd.prog 3 args W fun e W' => ∃ v, e = .returned v ∧ Rows.termLeastSpec.post enc Tryd.prog Tryd.f3 false true false false W args v W' := by
  have hW' := hW
  obtain ⟨p, q, hA0, hV, rfl, hfz, hnd⟩ := hW
  have hA : DataW.TrodAll enc Tryd.prog W 0 (fun _ => true) true Tryd.f3.params.toList args.toList ds p := hA0
  rw [Tryd.params3] at hA hval
  obtain ⟨v0, v1, v2, d0, d1, d2, p0, p1, p2, rfl, rfl, rfl, h0, h1, h2⟩ := trodAll_three hA
  obtain ⟨rfl, rfl⟩ := trodVars_none hV
  have hb3 := least_three hk
  obtain ⟨a, ea, ha, hca, pa⟩ := open_arg_nums (hval 0 24 v0 rfl rfl) h0 1048576 (by omega) (by omega)
  obtain ⟨b, eb, hb, hcb, pb⟩ := open_arg_nums (hval 1 24 v1 rfl rfl) h1 1048576 (by omega) (by omega)
  obtain ⟨c, ec, hc, hcc, pc⟩ := open_arg_nums (hval 2 24 v2 rfl rfl) h2 1048576 (by omega) (by omega)
  have lt0 : ∀ x ∈ p0, x.block < W.heap.size := by obtain ⟨m, hm⟩ := h0; exact DataW.trod_lt m _ _ _ hm
  have lt1 : ∀ x ∈ p1, x.block < W.heap.size := by obtain ⟨m, hm⟩ := h1; exact DataW.trod_lt m _ _ _ hm
  have lt2 : ∀ x ∈ p2, x.block < W.heap.size := by obtain ⟨m, hm⟩ := h2; exact DataW.trod_lt m _ _ _ hm
  clear hA0
  have htab := pow_table hL
  have hwalk : Calls Tryd.prog 3 #[v0, v1, v2] W fun e W' => e = .returned (.bool true) ∧ Below W.heap.size W W' := by
    rw [ea, eb, ec]
    by_cases h : okT a = true ∧ okT b = true ∧ okT c = true
    · exact termLeast_ok a b c W ha hb hc h.1 h.2.1 h.2.2 (pw_of h.1 pa) (pw_of h.2.1 pb) (by omega) (by omega) (by omega) (by omega) htab
    · exact termLeast_no a b c W ha hb hc h
  refine hwalk.mono fun e W' ⟨he, bel⟩ => ?_
  subst he
  exact ⟨_, rfl, _, _, _, [], _, [], hW', trodAll_mk1 (shut_bool Tryd.underlying4 _), (trodAll_mk3 (Below.trod least_laidOut (by kernel_rfl) (of_decide_eq_true (by kernel_rfl)) h0 bel lt0) (Below.trod least_laidOut (by kernel_rfl) (of_decide_eq_true (by kernel_rfl)) h1 bel lt1) (Below.trod least_laidOut (by kernel_rfl) (of_decide_eq_true (by kernel_rfl)) h2 bel lt2)), rfl, bel.frame _, fun h => by cases h⟩

/-- The term of the witness. -/
def leastArg : Value := .agg #[.int .i64 0, .int .i64 0, .string ⟨#[]⟩, .slice none 0 0]
def leastData {H : Type} : DataW H := .agg [.lit (.int .i64 0), .lit (.int .i64 0), .lit (.string []), .nil]
/-- A block of cells, with others in it. -/
def layCells (cs : Array Value) : Obj → Obj
  | .cells _ t frozen => .cells cs t frozen
  | o => o
def tab32 : List Int := [0, 1, 28, 2, 29, 14, 24, 3, 30, 22, 20, 15, 25, 17, 4, 8, 31, 27, 13, 23, 21, 19, 16, 7, 26, 12, 18, 6, 11, 5, 10, 9]
def tab64 : List Int := [0, 1, 56, 2, 57, 49, 28, 3, 61, 58, 42, 50, 38, 29, 17, 4, 62, 47, 59, 36, 45, 43, 51, 22, 53, 39, 33, 30, 24, 18, 12, 5, 63, 55, 48, 27, 60, 41, 37, 16, 46, 35, 44, 21, 52, 32, 23, 11, 54, 26, 40, 15, 34, 20, 31, 10, 25, 14, 19, 9, 13, 8, 7, 6]
def layTabs (h : Array Obj) : Array Obj := ((h.modify 0 (layCells (Lib.pow10Tab.map (Value.int .u64)).toArray)).modify 1 (layCells (tab32.map (Value.int .u8)).toArray)).modify 2 (layCells (tab64.map (Value.int .u8)).toArray)
/-- A world for the witness: the settled one, the three tables holding what their initialisers lay. -/
noncomputable def leastWorld (os : Os) : World :=
  { World.holding Tryd.prog os ⟨#[], #[], []⟩ with heap := layTabs (World.holding Tryd.prog os ⟨#[], #[], []⟩).heap }
set_option maxRecDepth 100000 in
theorem least_met (os : Os) : laidMet Tryd.prog Rows.termLeastUptoRow.laid ((leastWorld os).forCall (fun _ _ => 0) ⟨#[], #[leastArg, leastArg, leastArg], []⟩).memory :=
  laidMet_of_run' 8 (by kernel_rfl) (by kernel_rfl)
set_option maxRecDepth 100000 in
theorem least_reads (os : Os) {H : Type} (enc : TypeId × Value → H) : ∃ places, DataW.whole enc Tryd.prog ((leastWorld os).forCall (fun _ _ => 0) ⟨#[], #[leastArg, leastArg, leastArg], []⟩).memory Tryd.f3.params.toList Rows.termLeastSpec.vars false #[leastArg, leastArg, leastArg].toList 8 = some ([leastData, leastData, leastData], [], places) :=
  ⟨[], by kernel_rfl⟩

set_option maxRecDepth 100000 in
theorem least_lifted (os : Os) (started : os.Started) (H : Type) (enc : TypeId × Value → H) (F : Stop.Interp) :
    ReturnsInHanded {} Tryd.checked os 3 .any ((Rows.OpenSpec.upto Rows.termLeastSpec).preRow enc Tryd.prog Tryd.f3 Rows.termLeastUptoRow.domain false Rows.termLeastUptoRow.laid) (((Rows.OpenSpec.upto Rows.termLeastSpec).at F).post enc Tryd.prog Tryd.f3 false true false false) := by
  obtain ⟨places, hx⟩ := least_reads os enc
  refine returnsInHanded_of_row (C := Tryd.checked) (s := Rows.OpenSpec.upto Rows.termLeastSpec) least_own started (by kernel_rfl) Tryd.func3
    (witness_row_at (enc := enc) (C := Tryd.checked) false (leastWorld os) #[leastArg, leastArg, leastArg] rfl (by kernel_rfl) (by kernel_rfl) (by kernel_rfl)
      (OpenSpec.preRow_of_cond 8 hx (by kernel_rfl) (fun k hk => by cases hk; kernel_rfl) (by kernel_rfl) (least_met os))) ?_
  intro W base args ds gs before hval hW _ hcond _ hL _ _
  exact least_contract H enc W base args ds gs before hval hW (hcond _ rfl) hL

theorem least_said : Rows.TermLeastUptoSaid :=
  OpenClaim.holds_of_cond 3 Tryd.f3 rfl rfl rfl rfl rfl rfl rfl ⟨rfl, rfl, rfl, rfl, rfl⟩ rfl rfl rfl rfl rfl (by kernel_rfl) Tryd.func3 (by kernel_rfl)
    (of_decide_eq_true (by kernel_rfl)) (by unfold Func.isWrapper; first | (rw [if_pos (by decide +kernel)]; kernel_rfl) | (rw [if_neg (by decide +kernel)]; exact ⟨rfl, rfl⟩))
    (fun os started H enc _ F => by rw [OpenClaim.pre_eq_preRow]; exact least_lifted os started H enc F)

theorem least_plain (f : FuncId) (fn : Func) (hf : Tryd.pinned.checked.prog.funcNamed "hornbook/hornkeep.TermLeast" = some f) (hfn : Tryd.pinned.checked.prog.funcs[f]? = some fn) :
    false = Tryd.pinned.checked.prog.looks [] ∧ ∀ (j : Nat) t, fn.params[j]? = some t → Tryd.pinned.checked.prog.wantsStandIn t = false := by
  obtain rfl : f = 3 := Option.some.inj ((show Tryd.prog.funcNamed "hornbook/hornkeep.TermLeast" = some 3 by kernel_rfl).symm.trans hf) |>.symm
  obtain rfl : fn = Tryd.f3 := (Option.some.inj (Tryd.func3.symm.trans hfn)).symm
  refine ⟨by kernel_rfl, fun j t ht => ?_⟩
  rw [Tryd.params3] at ht
  obtain rfl : t = 24 := by simpa using Array.mem_of_getElem? ht
  exact (show Tryd.prog.wantsStandIn 24 = false by kernel_rfl)

theorem termLeast_holds : Rows.TermLeastUptoCardSaid :=
  Claim7.holds_tied_plain_at .later [] _ _ _ _ least_said (fun _ h => by cases h) (by kernel_rfl) (fun _ h => by cases h) termLeastUpto_row_tie rfl ⟨rfl, rfl⟩ (by kernel_rfl) rfl least_plain (by kernel_rfl)
end Go.Proofs.YtcjeeagnfmipgaaDoor

