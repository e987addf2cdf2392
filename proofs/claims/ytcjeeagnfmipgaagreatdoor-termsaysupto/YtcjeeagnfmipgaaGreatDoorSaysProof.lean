import Derived.Test.YtcjeeagnfmipgaaGreatDoorCards
import Derived.Test.YtcjeeagnfmipgaaGreatDoorTie
import Derived.Test.YtcjeeagnfmipgaaGreatDoorLms
import Derived.Test.YtcjeeagnfmipgaaGreatDoorTy
import Derived.Test.YtcjeeagnfmipgaaGreatDoorPx
import Derived.ProofKit
import Derived.OpenShut
import Derived.JoinedCond
import Derived.Deep.DeepHandedRow
import Derived.Lib.LaidTab
/- Proved here: hornlaw.TermSays returns true at any four arguments that can be read as data and are together of bulk at most 1048576, and leaves them, and all else that lay, as they were (the card: what the tables hold is tied to the program's text). -/
namespace Go.Proofs.YtcjeeagnfmipgaaGreatDoor
open Go.ChangeShapes Go.WideShapes Go.ChangeAt Go.RowKit

theorem says_own : ownKnob Tryz.prog.godebug = none := by kernel_rfl
theorem says_laidOut : laidOutB Tryz.prog = true := by kernel_rfl
theorem gPow : Tryz.prog.globalNamed "internal/strconv.uint64pow10" = some 0 := by kernel_rfl
theorem gPowType : (Tryz.prog.globals[0]?).map (·.type) = some 180 := by kernel_rfl
theorem pow_under : Tryz.prog.underlying 180 = some (.array 20 162) := by kernel_rfl
theorem pow_elem : Tryz.prog.underlying 162 = some (.int .u64) := by kernel_rfl
theorem pow_one : Tryz.prog.cellsOf 162 = 1 := by kernel_rfl
theorem pow_all : Tryz.prog.cellsOf 180 = 20 := by kernel_rfl
/-- What the row's list gives: the table of powers lies. -/
theorem pow_table {W : World} (h : laidMetH Tryz.prog Rows.termSaysUptoRow.laid W) : Tab W.heap.size W := by
  have h1 : laidMetH Tryz.prog (Rows.termSaysUptoRow.laid.filter fun x => x.1 == "internal/strconv.uint64pow10") W := h.filter _
  have h2 : (Rows.termSaysUptoRow.laid.filter fun x => x.1 == "internal/strconv.uint64pow10") = [("internal/strconv.uint64pow10", Lib.tabData .u64 Lib.pow10Tab)] := by rfl
  rw [h2] at h1
  exact Lib.tabBelow_of_tabIs (Lib.tabIs_of_head (rest := []) gPow gPowType pow_under pow_elem pow_one pow_all h1)
theorem says_four {H : Type} {d0 d1 d2 d3 : DataW H} (hk : Rows.uptoSmall H ([d0, d1, d2, d3] ++ []) = true) : Rows.uptoBulk d0 + Rows.uptoBulk d1 + Rows.uptoBulk d2 + Rows.uptoBulk d3 ≤ 1048576 := by
  have h : Rows.uptoBulkAll [d0, d1, d2, d3] ≤ 1048576 := of_decide_eq_true hk
  simp only [Rows.uptoBulkAll] at h
  omega
theorem trodAll_four {H : Type} {enc : TypeId × Value → H} {P : Program} {w : World} {base : Nat} {spare : Nat → Bool} {held : Bool} {t t' t'' t3 : TypeId} {args : Array Value} {ds : List (DataW H)} {ps : List MemPlace} (h : DataW.TrodAll enc P w base spare held [t, t', t'', t3] args.toList ds ps) :
    ∃ v v' v'' v3 d d' d'' d3 p p' p'' p3, args = #[v, v', v'', v3] ∧ ds = [d, d', d'', d3] ∧ ps = p ++ (p' ++ (p'' ++ p3)) ∧ DataW.Trod enc P w base spare held t v d p ∧ DataW.Trod enc P w base spare held t' v' d' p' ∧ DataW.Trod enc P w base spare held t'' v'' d'' p'' ∧ DataW.Trod enc P w base spare held t3 v3 d3 p3 := by
  obtain ⟨v, vs, d, ds1, p, q, hargs, rfl, rfl, hd, hrest⟩ := trodAll_cons h
  obtain ⟨v', vs', d', ds2, p', q', rfl, rfl, rfl, hd', hrest'⟩ := trodAll_cons hrest
  obtain ⟨v'', vs'', d'', ds3, p'', q'', rfl, rfl, rfl, hd'', hrest''⟩ := trodAll_cons hrest'
  obtain ⟨v3, vs3, d3, ds4, p3, q3, rfl, rfl, rfl, hd3, hrest3⟩ := trodAll_cons hrest''
  obtain ⟨rfl, rfl, rfl⟩ := trodAll_nil hrest3
  exact ⟨v, v', v'', v3, d, d', d'', d3, p, p', p'', p3, by cases args; simp_all, rfl, by simp, hd, hd', hd'', hd3⟩
set_option maxRecDepth 100000 in
theorem says_contract (H : Type) (enc : TypeId × Value → H) (W : World) (base : Nat) (args : Array Value) (ds gs : List (DataW H)) (before : List MemPlace)
    (hval : ∀ (j : Nat) t v, Tryz.f3.params[j]? = some t → args[j]? = some v → Value.okWide Tryz.prog W .any base t v)
    (hW : DataW.Whole enc Tryz.prog Tryz.f3.params.toList Rows.termSaysSpec.vars false W args.toList ds gs before) (hk : Rows.uptoSmall H (ds ++ gs) = true) (hL : laidMetH Tryz.prog Rows.termSaysUptoRow.laid W) :
    Calls Tryz.prog 3 args W fun e W' => ∃ v, e = .returned v ∧ Rows.termSaysSpec.post enc Tryz.prog Tryz.f3 false true false false W args v W' := by
  have hW' := hW
  obtain ⟨p, q, hA0, hV, rfl, hfz, hnd⟩ := hW
  have hA : DataW.TrodAll enc Tryz.prog W 0 (fun _ => true) true Tryz.f3.params.toList args.toList ds p := hA0
  rw [Tryz.params3] at hA hval
  obtain ⟨v0, v1, v2, v3, d0, d1, d2, d3, p0, p1, p2, p3, rfl, rfl, rfl, h0, h1, h2, h3⟩ := trodAll_four hA
  obtain ⟨rfl, rfl⟩ := trodVars_none hV
  have hb4 := says_four hk
  obtain ⟨f, ef, -, -, -⟩ := open_int Tryz.underlying2 (hval 2 2 v2 rfl rfl) h2
  obtain ⟨la, len, cap, ns, ep, hcap, hN⟩ := open_path (hval 3 25 v3 rfl rfl) h3 (by omega)
  obtain ⟨a, ea, ha, hca, pa⟩ := open_arg_nums (hval 0 24 v0 rfl rfl) h0 1048576 (by omega) (by omega)
  obtain ⟨b, eb, hb, hcb, pb⟩ := open_arg_nums (hval 1 24 v1 rfl rfl) h1 1048576 (by omega) (by omega)
  have lt0 : ∀ x ∈ p0, x.block < W.heap.size := by obtain ⟨m, hm⟩ := h0; exact DataW.trod_lt m _ _ _ hm
  have lt1 : ∀ x ∈ p1, x.block < W.heap.size := by obtain ⟨m, hm⟩ := h1; exact DataW.trod_lt m _ _ _ hm
  have lt2 : ∀ x ∈ p2, x.block < W.heap.size := by obtain ⟨m, hm⟩ := h2; exact DataW.trod_lt m _ _ _ hm
  have lt3 : ∀ x ∈ p3, x.block < W.heap.size := by obtain ⟨m, hm⟩ := h3; exact DataW.trod_lt m _ _ _ hm
  clear hA0
  have htab := pow_table hL
  have hwalk : Calls Tryz.prog 3 #[v0, v1, v2, v3] W fun e W' => e = .returned (.bool true) ∧ Below W.heap.size W W' := by
    rw [ea, eb, ef, ep]
    rw [parts_code] at hca hcb
    exact says_any a b f ns la len cap W ha hb (by omega) (by omega) (fun h => pw_of h pa) (fun h => pw_of h pb) htab hN hcap
  refine hwalk.mono fun e W' ⟨he, bel⟩ => ?_
  subst he
  exact ⟨_, rfl, _, _, _, [], _, [], hW', trodAll_mk1 (shut_bool Tryz.underlying4 _), ⟨p0, _, (Below.trod says_laidOut (by kernel_rfl) (of_decide_eq_true (by kernel_rfl)) h0 bel lt0), ⟨p1, _, (Below.trod says_laidOut (by kernel_rfl) (of_decide_eq_true (by kernel_rfl)) h1 bel lt1), ⟨p2, _, (Below.trod says_laidOut (by kernel_rfl) (of_decide_eq_true (by kernel_rfl)) h2 bel lt2), trodAll_mk1 (Below.trod says_laidOut (by kernel_rfl) (of_decide_eq_true (by kernel_rfl)) h3 bel lt3), rfl⟩, rfl⟩, rfl⟩, rfl, bel.frame _, fun h => by cases h⟩

/-- The term of the witness. -/
def saysArg : Value := .agg #[.int .i64 0, .int .i64 0, .string ⟨#[]⟩, .slice none 0 0]
def saysData {H : Type} : DataW H := .agg [.lit (.int .i64 0), .lit (.int .i64 0), .lit (.string []), .nil]
/-- A block of cells, with others in it. -/
def layCells (cs : Array Value) : Obj → Obj
  | .cells _ t frozen => .cells cs t frozen
  | o => o
def tab32 : List Int := [0, 1, 28, 2, 29, 14, 24, 3, 30, 22, 20, 15, 25, 17, 4, 8, 31, 27, 13, 23, 21, 19, 16, 7, 26, 12, 18, 6, 11, 5, 10, 9]
def tab64 : List Int := [0, 1, 56, 2, 57, 49, 28, 3, 61, 58, 42, 50, 38, 29, 17, 4, 62, 47, 59, 36, 45, 43, 51, 22, 53, 39, 33, 30, 24, 18, 12, 5, 63, 55, 48, 27, 60, 41, 37, 16, 46, 35, 44, 21, 52, 32, 23, 11, 54, 26, 40, 15, 34, 20, 31, 10, 25, 14, 19, 9, 13, 8, 7, 6]
def layTabs (h : Array Obj) : Array Obj := ((h.modify 0 (layCells (Lib.pow10Tab.map (Value.int .u64)).toArray)).modify 1 (layCells (tab32.map (Value.int .u8)).toArray)).modify 2 (layCells (tab64.map (Value.int .u8)).toArray)
/-- A world for the witness: the settled one, the three tables holding what their initialisers lay. -/
noncomputable def saysWorld (os : Os) : World :=
  { World.holding Tryz.prog os ⟨#[], #[], []⟩ with heap := layTabs (World.holding Tryz.prog os ⟨#[], #[], []⟩).heap }
set_option maxRecDepth 100000 in
theorem says_met (os : Os) : laidMet Tryz.prog Rows.termSaysUptoRow.laid ((saysWorld os).forCall (fun _ _ => 0) ⟨#[], #[saysArg, saysArg, .int .i64 0, .slice none 0 0], []⟩).memory :=
  laidMet_of_run' 8 (by kernel_rfl) (by kernel_rfl)
set_option maxRecDepth 100000 in
theorem says_reads (os : Os) {H : Type} (enc : TypeId × Value → H) : ∃ places, DataW.whole enc Tryz.prog ((saysWorld os).forCall (fun _ _ => 0) ⟨#[], #[saysArg, saysArg, .int .i64 0, .slice none 0 0], []⟩).memory Tryz.f3.params.toList Rows.termSaysSpec.vars false #[saysArg, saysArg, .int .i64 0, .slice none 0 0].toList 8 = some ([saysData, saysData, .lit (.int .i64 0), .nil], [], places) :=
  ⟨[], by kernel_rfl⟩

set_option maxRecDepth 100000 in
theorem says_lifted (os : Os) (started : os.Started) (H : Type) (enc : TypeId × Value → H) (F : Stop.Interp) :
    ReturnsInHanded {} Tryz.checked os 3 .any ((Rows.OpenSpec.upto Rows.termSaysSpec).preRow enc Tryz.prog Tryz.f3 Rows.termSaysUptoRow.domain false Rows.termSaysUptoRow.laid) (((Rows.OpenSpec.upto Rows.termSaysSpec).at F).post enc Tryz.prog Tryz.f3 false true false false) := by
  obtain ⟨places, hx⟩ := says_reads os enc
  refine returnsInHanded_of_row (C := Tryz.checked) (s := Rows.OpenSpec.upto Rows.termSaysSpec) says_own started (by kernel_rfl) Tryz.func3
    (witness_row_at (enc := enc) (C := Tryz.checked) false (saysWorld os) #[saysArg, saysArg, .int .i64 0, .slice none 0 0] rfl (by kernel_rfl) (by kernel_rfl) (by kernel_rfl)
      (OpenSpec.preRow_of_cond 8 hx (by kernel_rfl) (fun k hk => by cases hk; kernel_rfl) (by kernel_rfl) (says_met os))) ?_
  intro W base args ds gs before hval hW _ hcond _ hL _ _
  exact says_contract H enc W base args ds gs before hval hW (hcond _ rfl) hL

theorem says_said : Rows.TermSaysUptoSaid :=
  OpenClaim.holds_of_cond 3 Tryz.f3 rfl rfl rfl rfl rfl rfl rfl ⟨rfl, rfl, rfl, rfl, rfl⟩ rfl rfl rfl rfl rfl (by kernel_rfl) Tryz.func3 (by kernel_rfl)
    (of_decide_eq_true (by kernel_rfl)) (by unfold Func.isWrapper; first | (rw [if_pos (by decide +kernel)]; kernel_rfl) | (rw [if_neg (by decide +kernel)]; exact ⟨rfl, rfl⟩))
    (fun os started H enc _ F => by rw [OpenClaim.pre_eq_preRow]; exact says_lifted os started H enc F)

theorem says_plain (f : FuncId) (fn : Func) (hf : Tryz.pinned.checked.prog.funcNamed "hornbook/hornlaw.TermSays" = some f) (hfn : Tryz.pinned.checked.prog.funcs[f]? = some fn) :
    false = Tryz.pinned.checked.prog.looks [] ∧ ∀ (j : Nat) t, fn.params[j]? = some t → Tryz.pinned.checked.prog.wantsStandIn t = false := by
  obtain rfl : f = 3 := Option.some.inj ((show Tryz.prog.funcNamed "hornbook/hornlaw.TermSays" = some 3 by kernel_rfl).symm.trans hf) |>.symm
  obtain rfl : fn = Tryz.f3 := (Option.some.inj (Tryz.func3.symm.trans hfn)).symm
  refine ⟨by kernel_rfl, fun j t ht => ?_⟩
  rw [Tryz.params3] at ht
  have hm : t = 24 ∨ t = 2 ∨ t = 25 := by simpa using Array.mem_of_getElem? ht
  rcases hm with rfl | rfl | rfl
  · exact (show Tryz.prog.wantsStandIn 24 = false by kernel_rfl)
  · exact (show Tryz.prog.wantsStandIn 2 = false by kernel_rfl)
  · exact (show Tryz.prog.wantsStandIn 25 = false by kernel_rfl)

theorem termSays_holds : Rows.TermSaysUptoCardSaid :=
  Claim7.holds_tied_plain_at .later [] _ _ _ _ says_said (fun _ h => by cases h) (by kernel_rfl) (fun _ h => by cases h) termSaysUpto_row_tie rfl ⟨rfl, rfl⟩ (by kernel_rfl) rfl says_plain (by kernel_rfl)
end Go.Proofs.YtcjeeagnfmipgaaGreatDoor

