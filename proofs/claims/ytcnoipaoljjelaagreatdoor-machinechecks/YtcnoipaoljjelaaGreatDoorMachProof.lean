import Derived.Test.YtcnoipaoljjelaaGreatDoorCards
import Derived.Test.YtcnoipaoljjelaaGreatDoorTie
import Derived.Test.YtcnoipaoljjelaaGreatDoorMcO
import Derived.Test.YtcnoipaoljjelaaGreatDoorMachOpen
import Derived.LaidSub
import Derived.Shelf.Vars
/- Proved here: hornlaw.MachineChecks returns true at any code, name and number that can be read as data, and leaves them, and all else that lay, as they were; the condition: the package-level variables on the row's list hold what the program's text lays (the card ties them). -/
namespace Go.Proofs.YtcnoipaoljjelaaGreatDoor
open Go.ChangeShapes Go.WideShapes Go.ChangeAt Go.RowKit

theorem mach_own : ownKnob Tryz.prog.godebug = none := by kernel_rfl
theorem mach_laidOut : laidOutB Tryz.prog = true := by kernel_rfl
theorem mach_max {W : World} (h : W.ShapedOpen Tryz.prog) : ∃ m, W.cell? ⟨splitLay_ren.g 1, 0, none⟩ = some (.int .i64 m) :=
  cell_of_shapedOpen_int (zero := #[.int .i64 0]) (t := 3) h (of_decide_eq_true (by kernel_rfl)) (by kernel_rfl) rfl (by kernel_rfl) (by kernel_rfl) Tryz.underlying3
/-- The table of forms: from the row's condition to its cells. -/
theorem gForms : Tryz.prog.globalNamed "hornbook/machine.forms" = some 0 := by kernel_rfl
theorem gFormsType : (Tryz.prog.globals[0]?).map (·.type) = some 55 := by kernel_rfl
theorem cForms : Tryz.prog.cellsOf 55 = 78 := by kernel_rfl
theorem cForm : Tryz.prog.cellsOf 54 = 3 := by kernel_rfl
def formD (o : Nat) : DataW Unit := .agg [.lit (.int .i64 (formA.getD o 0)), .lit (.int .i64 (formB.getD o 0)), .lit (.int .i64 (formC.getD o 0))]
theorem forms_data : Rows.laid_hornbook_machine_forms (H := Unit) = .agg ((List.range 26).map formD) := by rfl
set_option maxRecDepth 100000 in
theorem forms_at {W : World} (h : laidMetH Tryz.prog Rows.machineChecksRow.laid W) : FormsAt W := by
  have h1 : laidMetH Tryz.prog (Rows.machineChecksRow.laid.filter fun x => x.1 == "hornbook/machine.forms") W := h.filter _
  have h2 : (Rows.machineChecksRow.laid.filter fun x => x.1 == "hornbook/machine.forms") = [("hornbook/machine.forms", Rows.laid_hornbook_machine_forms)] := by rfl
  rw [h2, forms_data] at h1
  have h3 : laidMet Tryz.prog [("hornbook/machine.forms", .agg ((List.range 26).map formD))] W := h1
  obtain ⟨ps, ⟨g', t', cs, fuel, p, q, hg', ht', hvar, hd, _, _⟩, _⟩ := h3
  obtain rfl := Option.some.inj (gForms.symm.trans hg')
  obtain rfl := Option.some.inj (gFormsType.symm.trans ht')
  cases fuel with
  | zero => simp [DataW.trod] at hd
  | succ fuel =>
    simp only [DataW.trod, Tryz.underlying55, cForms, cForm] at hd
    split at hd
    · rename_i hl
      obtain ⟨xs, hm, hx⟩ := Option.map_eq_some_iff.1 hd
      have hxs : xs.map (·.1) = (List.range 26).map formD := by
        have := congrArg Prod.fst hx
        simpa using this
      have hcell := fun i => World.var?_cell gForms hvar i
      have key : ∀ o : Nat, o < 26 → W.cell? ⟨0, o * 3, none⟩ = some (.int .i64 (formA.getD o 0)) ∧ W.cell? ⟨0, o * 3 + 1, none⟩ = some (.int .i64 (formB.getD o 0)) ∧ W.cell? ⟨0, o * 3 + 2, none⟩ = some (.int .i64 (formC.getD o 0)) := by
        intro o ho
        obtain ⟨b, hb, hf⟩ := Lib.mapM_at hm o o (by simp [ho])
        have hb1 : b.1 = formD o := by
          have e : (xs.map (·.1))[o]? = some b.1 := by simp [hb]
          rw [hxs] at e
          simpa [ho] using e.symm
        obtain ⟨ys, n, rfl, hy, hyl, hyn, hfs⟩ := DataW.trod_struct Tryz.underlying54 hf
        have hy3 : ys.length = 3 := hyn
        obtain ⟨y0, y1, y2, rfl⟩ := list3 hy3
        rw [cForm] at hyl
        obtain ⟨v0, v1, v2, hv⟩ := list3 hyl
        rw [hv] at hfs
        have f0 : DataW.trod _ Tryz.prog W _ _ _ n 3 (List.take (Tryz.prog.cellsOf 3) (List.drop 0 [v0, v1, v2])) = some y0 := hfs 0 _ rfl
        have f1 : DataW.trod _ Tryz.prog W _ _ _ n 3 (List.take (Tryz.prog.cellsOf 3) (List.drop 1 [v0, v1, v2])) = some y1 := hfs 1 _ rfl
        have f2 : DataW.trod _ Tryz.prog W _ _ _ n 3 (List.take (Tryz.prog.cellsOf 3) (List.drop 2 [v0, v1, v2])) = some y2 := hfs 2 _ rfl
        rw [Tryz.cellsI] at f0 f1 f2
        simp only [List.drop_zero, List.drop_succ_cons, List.take_succ_cons, List.take_zero] at f0 f1 f2
        obtain ⟨i0, g0, z0, -⟩ := DataW.trod_int Tryz.underlying3 f0
        obtain ⟨i1, g1, z1, -⟩ := DataW.trod_int Tryz.underlying3 f1
        obtain ⟨i2, g2, z2, -⟩ := DataW.trod_int Tryz.underlying3 f2
        simp only [List.cons.injEq, and_true] at g0 g1 g2
        subst g0 g1 g2
        have hb2 : b.1 = .agg [.lit (.int .i64 i0), .lit (.int .i64 i1), .lit (.int .i64 i2)] := by rw [hy, z0, z1, z2]; rfl
        rw [hb1] at hb2
        unfold formD at hb2
        simp only [DataW.agg.injEq, List.cons.injEq, DataW.lit.injEq, Lit.int.injEq, true_and, and_true] at hb2
        obtain ⟨e0, e1, e2⟩ := hb2
        have hcs : ∀ r, r < 3 → cs[o * 3 + r]? = ([.int .i64 i0, .int .i64 i1, .int .i64 i2] : List Value)[r]? := fun r hr => by
          rw [← hv, List.getElem?_take, if_pos hr, List.getElem?_drop]
          simp
        refine ⟨?_, ?_, ?_⟩
        · rw [hcell, e0]; simpa using hcs 0 (by omega)
        · rw [hcell, e1]; simpa using hcs 1 (by omega)
        · rw [hcell, e2]; simpa using hcs 2 (by omega)
      exact ⟨cell_lt (key 0 (by omega)).1, key⟩
    · cases hd

set_option maxRecDepth 100000 in
theorem mach_contract (H : Type) (enc : TypeId × Value → H) (W : World) (base : Nat) (args : Array Value) (ds gs : List (DataW H)) (before : List MemPlace)
    (hval : ∀ (j : Nat) t v, Tryz.f3.params[j]? = some t → args[j]? = some v → Value.okWide Tryz.prog W .any base t v)
    (hW : DataW.Whole enc Tryz.prog Tryz.f3.params.toList Rows.machineChecksSpec.vars false W args.toList ds gs before) (hL : laidMetH Tryz.prog Rows.machineChecksRow.laid W) (hS : W.ShapedOpen Tryz.prog) :
    Calls Tryz.prog 3 args W fun e W' => ∃ v, e = .returned v ∧ Rows.machineChecksSpec.post enc Tryz.prog Tryz.f3 false true false false W args v W' := by
  have hW' := hW
  obtain ⟨p, q, hA0, hV, rfl, hfz, hnd⟩ := hW
  have hA : DataW.TrodAll enc Tryz.prog W 0 (fun _ => true) true Tryz.f3.params.toList args.toList ds p := hA0
  rw [Tryz.params3] at hA hval
  obtain ⟨v0, v1, v2, d0, d1, d2, p0, p1, p2, rfl, rfl, rfl, h0, h1, h2⟩ := trodAll_three hA
  obtain ⟨rfl, rfl⟩ := trodVars_none hV
  obtain ⟨a, len, cap, I, a', len', cap', E, qq, rfl, hI, hE⟩ := open_code (hval 0 25 v0 rfl rfl) h0
  obtain ⟨s, rfl⟩ := okWide_string Tryz.underlying9 (hval 1 9 v1 rfl rfl)
  obtain ⟨n, rfl⟩ := okWide_int Tryz.underlying3 (hval 2 3 v2 rfl rfl)
  have lt0 : ∀ x ∈ p0, x.block < W.heap.size := by obtain ⟨m, hm⟩ := h0; exact DataW.trod_lt m _ _ _ hm
  have lt1 : ∀ x ∈ p1, x.block < W.heap.size := by obtain ⟨m, hm⟩ := h1; exact DataW.trod_lt m _ _ _ hm
  have lt2 : ∀ x ∈ p2, x.block < W.heap.size := by obtain ⟨m, hm⟩ := h2; exact DataW.trod_lt m _ _ _ hm
  obtain ⟨m, hm⟩ := mach_max hS
  have hwalk := machineChecks_any I a len cap E a' len' cap' qq s n m W hI hE (forms_at hL) hm (cell_lt hm)
  clear hA0
  refine hwalk.mono fun e W' ⟨he, bel⟩ => ?_
  subst he
  exact ⟨_, rfl, _, _, _, [], _, [], hW', trodAll_mk1 (shut_bool Tryz.underlying4 _), (trodAll_mk3 (Below.trod mach_laidOut (by kernel_rfl) (of_decide_eq_true (by kernel_rfl)) h0 bel lt0) (Below.trod mach_laidOut (by kernel_rfl) (of_decide_eq_true (by kernel_rfl)) h1 bel lt1) (Below.trod mach_laidOut (by kernel_rfl) (of_decide_eq_true (by kernel_rfl)) h2 bel lt2)), rfl, bel.frame _, fun h => by cases h⟩

/-- A block of cells, with others in it. -/
def layCells (cs : Array Value) : Obj → Obj
  | .cells _ t frozen => .cells cs t frozen
  | o => o
def acceptCells : Array Value := ([128, 191, 160, 191, 128, 159, 144, 191, 128, 143] ++ List.replicate 22 0 : List Int).toArray.map (Value.int .u8)
def tab32 : List Int := [0, 1, 28, 2, 29, 14, 24, 3, 30, 22, 20, 15, 25, 17, 4, 8, 31, 27, 13, 23, 21, 19, 16, 7, 26, 12, 18, 6, 11, 5, 10, 9]
def tab64 : List Int := [0, 1, 56, 2, 57, 49, 28, 3, 61, 58, 42, 50, 38, 29, 17, 4, 62, 47, 59, 36, 45, 43, 51, 22, 53, 39, 33, 30, 24, 18, 12, 5, 63, 55, 48, 27, 60, 41, 37, 16, 46, 35, 44, 21, 52, 32, 23, 11, 54, 26, 40, 15, 34, 20, 31, 10, 25, 14, 19, 9, 13, 8, 7, 6]
def tabPow : List Int := [1, 10, 100, 1000, 10000, 100000, 1000000, 10000000, 100000000, 1000000000, 10000000000, 100000000000, 1000000000000, 10000000000000, 100000000000000, 1000000000000000, 10000000000000000, 100000000000000000, 1000000000000000000, 10000000000000000000]
def formCells : Array Value := ((List.range 26).flatMap fun o => [Value.int .i64 (formA.getD o 0), .int .i64 (formB.getD o 0), .int .i64 (formC.getD o 0)]).toArray
def layTabs (h : Array Obj) : Array Obj := (((((h.modify 0 (layCells formCells)).modify 2 (layCells (Pinned.utf8FirstZ.map fun n : Nat => Value.int .u8 (n : Int)).toArray)).modify 3 (layCells acceptCells)).modify 4 (layCells (tabPow.map (Value.int .u64)).toArray)).modify 5 (layCells (tab32.map (Value.int .u8)).toArray)).modify 6 (layCells (tab64.map (Value.int .u8)).toArray)
/-- A world for the witness: the settled one, the six tables holding what their initialisers lay. -/
noncomputable def machWorld (os : Os) : World :=
  { World.holding Tryz.prog os ⟨#[], #[], []⟩ with heap := layTabs (World.holding Tryz.prog os ⟨#[], #[], []⟩).heap }
def machArg : Value := .agg #[.slice none 0 0, .slice none 0 0, .int .i64 0]
set_option maxRecDepth 100000 in
theorem mach_met (os : Os) : laidMet Tryz.prog Rows.machineChecksRow.laid ((machWorld os).forCall (fun _ _ => 0) ⟨#[], #[machArg, .string ⟨#[]⟩, .int .i64 0], []⟩).memory :=
  laidMet_of_run' 8 (by kernel_rfl) (by kernel_rfl)
set_option maxRecDepth 100000 in
theorem mach_reads (os : Os) {H : Type} (enc : TypeId × Value → H) : ∃ places, DataW.whole enc Tryz.prog ((machWorld os).forCall (fun _ _ => 0) ⟨#[], #[machArg, .string ⟨#[]⟩, .int .i64 0], []⟩).memory Tryz.f3.params.toList Rows.machineChecksSpec.vars false #[machArg, .string ⟨#[]⟩, .int .i64 0].toList 8 = some ([.agg [.nil, .nil, .lit (.int .i64 0)], .lit (.string []), .lit (.int .i64 0)], [], places) :=
  ⟨[], by kernel_rfl⟩

set_option maxRecDepth 100000 in
theorem mach_lifted (os : Os) (started : os.Started) (H : Type) (enc : TypeId × Value → H) (F : Stop.Interp) :
    ReturnsInHanded {} Tryz.checked os 3 .any ((OpenSpec.ofChange Rows.machineChecksSpec).preRow enc Tryz.prog Tryz.f3 Rows.machineChecksRow.domain false Rows.machineChecksRow.laid) (((OpenSpec.ofChange Rows.machineChecksSpec).at F).post enc Tryz.prog Tryz.f3 false true false false) := by
  obtain ⟨places, hx⟩ := mach_reads os enc
  refine returnsInHanded_of_row (C := Tryz.checked) (s := OpenSpec.ofChange Rows.machineChecksSpec) mach_own started (by kernel_rfl) Tryz.func3
    (witness_row_at (enc := enc) (C := Tryz.checked) false (machWorld os) #[machArg, .string ⟨#[]⟩, .int .i64 0] rfl (by kernel_rfl) (by kernel_rfl) (by kernel_rfl)
      (OpenSpec.preRow_of_cond 8 hx (by kernel_rfl) (fun k hk => by cases hk) (by kernel_rfl) (mach_met os))) ?_
  intro W base args ds gs before hval hW _ _ _ hL hS _
  exact mach_contract H enc W base args ds gs before hval hW hL hS

theorem mach_said : Rows.MachineChecksSaid :=
  OpenClaim.holds_of_cond 3 Tryz.f3 rfl rfl rfl rfl rfl rfl rfl ⟨rfl, rfl, rfl, rfl, rfl⟩ rfl rfl rfl rfl rfl (by kernel_rfl) Tryz.func3 (by kernel_rfl)
    (of_decide_eq_true (by kernel_rfl)) (by unfold Func.isWrapper; first | (rw [if_pos (by decide +kernel)]; kernel_rfl) | (rw [if_neg (by decide +kernel)]; exact ⟨rfl, rfl⟩))
    (fun os started H enc _ F => by rw [OpenClaim.pre_eq_preRow]; exact mach_lifted os started H enc F)

theorem mach_plain (f : FuncId) (fn : Func) (hf : Tryz.pinned.checked.prog.funcNamed "hornbook/hornlaw.MachineChecks" = some f) (hfn : Tryz.pinned.checked.prog.funcs[f]? = some fn) :
    true = Tryz.pinned.checked.prog.looks [] ∧ ∀ (j : Nat) t, fn.params[j]? = some t → Tryz.pinned.checked.prog.wantsStandIn t = false := by
  obtain rfl : f = 3 := Option.some.inj ((show Tryz.prog.funcNamed "hornbook/hornlaw.MachineChecks" = some 3 by kernel_rfl).symm.trans hf) |>.symm
  obtain rfl : fn = Tryz.f3 := (Option.some.inj (Tryz.func3.symm.trans hfn)).symm
  refine ⟨by kernel_rfl, fun j t ht => ?_⟩
  rw [Tryz.params3] at ht
  have hm : t = 25 ∨ t = 9 ∨ t = 3 := by simpa using Array.mem_of_getElem? ht
  rcases hm with rfl | rfl | rfl
  · exact (show Tryz.prog.wantsStandIn 25 = false by kernel_rfl)
  · exact (show Tryz.prog.wantsStandIn 9 = false by kernel_rfl)
  · exact (show Tryz.prog.wantsStandIn 3 = false by kernel_rfl)

theorem machineChecks_holds : Rows.MachineChecksCardSaid :=
  Claim7.holds_tied_plain_at .later [] _ _ _ _ mach_said (fun _ h => by cases h) (by kernel_rfl) (fun _ h => by cases h) machineChecks_row_tie rfl ⟨rfl, rfl⟩ (by kernel_rfl) rfl mach_plain (by kernel_rfl)
end Go.Proofs.YtcnoipaoljjelaaGreatDoor

