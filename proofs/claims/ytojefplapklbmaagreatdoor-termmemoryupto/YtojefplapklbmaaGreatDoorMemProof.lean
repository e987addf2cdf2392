import Derived.Test.YtojefplapklbmaaGreatDoorCards
import Derived.Test.YtojefplapklbmaaGreatDoorTie
import Derived.Test.YtojefplapklbmaaGreatDoorGes
import Derived.Test.YtojefplapklbmaaGreatDoorPx
import Derived.Test.YtojefplapklbmaaGreatDoorMrz
import Derived.ProofKit
import Derived.OpenShut
import Derived.JoinedCond
import Derived.Deep.DeepHandedRow
import Derived.Lib.LaidTab
/- Proved here: hornkeep.TermMemory returns true at any five arguments that can be read as data and are together of bulk at most 1048576, and leaves them, and all else that lay, as they were (the card: what the tables hold is tied to the program's text). -/
namespace Go.Proofs.YtojefplapklbmaaGreatDoor
open Go.ChangeShapes Go.WideShapes Go.ChangeAt Go.RowKit

theorem mem_own : ownKnob Tryz.prog.godebug = none := by kernel_rfl
theorem mem_laidOut : laidOutB Tryz.prog = true := by kernel_rfl
theorem memPow : Tryz.prog.globalNamed "internal/strconv.uint64pow10" = some 0 := by kernel_rfl
theorem memPowType : (Tryz.prog.globals[0]?).map (·.type) = some 180 := by kernel_rfl
theorem mem_pow_under : Tryz.prog.underlying 180 = some (.array 20 162) := by kernel_rfl
theorem mem_pow_elem : Tryz.prog.underlying 162 = some (.int .u64) := by kernel_rfl
theorem mem_pow_one : Tryz.prog.cellsOf 162 = 1 := by kernel_rfl
theorem mem_pow_all : Tryz.prog.cellsOf 180 = 20 := by kernel_rfl
/-- What the row's list gives: the table of powers lies. -/
theorem mem_pow_table {W : World} (h : laidMetH Tryz.prog Rows.termMemoryUptoRow.laid W) : Tab W.heap.size W := by
  have h1 : laidMetH Tryz.prog (Rows.termMemoryUptoRow.laid.filter fun x => x.1 == "internal/strconv.uint64pow10") W := h.filter _
  have h2 : (Rows.termMemoryUptoRow.laid.filter fun x => x.1 == "internal/strconv.uint64pow10") = [("internal/strconv.uint64pow10", Lib.tabData .u64 Lib.pow10Tab)] := by rfl
  rw [h2] at h1
  exact Lib.tabBelow_of_tabIs (Lib.tabIs_of_head (rest := []) memPow memPowType mem_pow_under mem_pow_elem mem_pow_one mem_pow_all h1)
theorem mem_five {H : Type} {d0 d1 d2 d3 d4 : DataW H} (hk : Rows.uptoSmall H ([d0, d1, d2, d3, d4] ++ []) = true) : Rows.uptoBulk d0 + Rows.uptoBulk d1 + Rows.uptoBulk d2 + Rows.uptoBulk d3 + Rows.uptoBulk d4 ≤ 1048576 := by
  have h : Rows.uptoBulkAll [d0, d1, d2, d3, d4] ≤ 1048576 := of_decide_eq_true hk
  simp only [Rows.uptoBulkAll] at h
  omega
theorem trodAll_five {H : Type} {enc : TypeId × Value → H} {P : Program} {w : World} {base : Nat} {spare : Nat → Bool} {held : Bool} {t t' t'' t3 t4 : TypeId} {args : Array Value} {ds : List (DataW H)} {ps : List MemPlace} (h : DataW.TrodAll enc P w base spare held [t, t', t'', t3, t4] args.toList ds ps) :
    ∃ v v' v'' v3 v4 d d' d'' d3 d4 p p' p'' p3 p4, args = #[v, v', v'', v3, v4] ∧ ds = [d, d', d'', d3, d4] ∧ ps = p ++ (p' ++ (p'' ++ (p3 ++ p4))) ∧ DataW.Trod enc P w base spare held t v d p ∧ DataW.Trod enc P w base spare held t' v' d' p' ∧ DataW.Trod enc P w base spare held t'' v'' d'' p'' ∧ DataW.Trod enc P w base spare held t3 v3 d3 p3 ∧ DataW.Trod enc P w base spare held t4 v4 d4 p4 := by
  obtain ⟨v, vs, d, ds1, p, q, hargs, rfl, rfl, hd, hrest⟩ := trodAll_cons h
  obtain ⟨v', vs', d', ds2, p', q', rfl, rfl, rfl, hd', hrest'⟩ := trodAll_cons hrest
  obtain ⟨v'', vs'', d'', ds3, p'', q'', rfl, rfl, rfl, hd'', hrest''⟩ := trodAll_cons hrest'
  obtain ⟨v3, vs3, d3, ds4, p3, q3, rfl, rfl, rfl, hd3, hrest3⟩ := trodAll_cons hrest''
  obtain ⟨v4, vs4, d4, ds5, p4, q4, rfl, rfl, rfl, hd4, hrest4⟩ := trodAll_cons hrest3
  obtain ⟨rfl, rfl, rfl⟩ := trodAll_nil hrest4
  exact ⟨v, v', v'', v3, v4, d, d', d'', d3, d4, p, p', p'', p3, p4, by cases args; simp_all, rfl, by simp, hd, hd', hd'', hd3, hd4⟩
set_option maxRecDepth 100000 in
/-- A path that can be read: a row of numbers. -/
theorem open_pathL {H : Type} {enc : TypeId × Value → H} {w : World} {r : Reach} {b0 : Nat} {spare : Nat → Bool} {held : Bool} {v : Value} {d : DataW H} {p : List MemPlace} (hv : Value.okWide Tryz.prog w r b0 25 v) (h : DataW.Trod enc Tryz.prog w 0 spare held 25 v d p) (hd : Rows.uptoBulk d ≤ 1048576) :
    ∃ a len cap ns, v = .slice a len cap ∧ (a = none → len = 0 ∧ cap = 0) ∧ len ≤ 1048576 ∧ IsN w a len ns := by
  obtain ⟨a, len, cap, rfl⟩ := okWide_slice Tryz.underlying25 hv
  obtain ⟨fuel, hf⟩ := h
  have hf' : DataW.trod enc Tryz.prog w 0 spare held fuel 25 [.slice a len cap] = some (d, p) := by simpa [Value.cells] using hf
  refine ⟨a, len, cap, ?_⟩
  rcases Go.ChangeShapes.open_ints Tryz.underlying25 Tryz.underlying3 (by kernel_rfl) hf' with ⟨g, -⟩ | ⟨a', len', cap', zs, g, hb, hlc, hmx, hzl, hx, hc, -⟩
  · simp only [List.cons.injEq, and_true, Value.slice.injEq] at g
    obtain ⟨rfl, rfl, rfl⟩ := g
    exact ⟨[], rfl, fun _ => ⟨rfl, rfl⟩, by omega, rfl, by omega, .inl rfl⟩
  · simp only [List.cons.injEq, and_true, Value.slice.injEq] at g
    obtain ⟨rfl, rfl, rfl⟩ := g
    have hzl' : len ≤ zs.length := by rw [hzl]; split <;> omega
    have hlen : len ≤ 1048576 := by
      have h1 : d = _ := (Prod.ext_iff.1 hx).1
      rw [h1] at hd
      simp only [Rows.uptoBulk] at hd
      have h2 := bulk_len (Go.ChangeShapes.lits (H := H) .i64 (zs.take len))
      simp only [Go.ChangeShapes.lits, List.length_map, List.length_take] at h2
      simp only [Go.ChangeShapes.lits] at hd
      omega
    refine ⟨zs.take len, rfl, (fun h => by cases h), hlen, by simp; omega, by omega, ?_⟩
    by_cases hl0 : len = 0
    · exact .inl (by simp [hl0])
    · obtain ⟨b, off, spot⟩ := a'
      have h0 := hc 0 (by omega)
      have hspot : spot = none := by simpa [Addr.add] using World.cell?_spot h0
      subst hspot
      refine .inr ⟨b, off, rfl, cell_lt (by simpa [Addr.add] using h0), fun j N hj => ?_⟩
      have hjl := (List.getElem?_eq_some_iff.1 hj).1
      simp only [List.length_take] at hjl
      have h1 := hc j (by omega)
      rw [List.getElem?_take] at hj
      rw [if_pos (by omega)] at hj
      rw [List.getD_eq_getElem?_getD, hj] at h1
      rw [add_none] at h1
      simpa using h1

set_option maxRecDepth 100000 in
theorem mem_contract (H : Type) (enc : TypeId × Value → H) (W : World) (base : Nat) (args : Array Value) (ds gs : List (DataW H)) (before : List MemPlace)
    (hval : ∀ (j : Nat) t v, Tryz.f4.params[j]? = some t → args[j]? = some v → Value.okWide Tryz.prog W .any base t v)
    (hW : DataW.Whole enc Tryz.prog Tryz.f4.params.toList Rows.termMemorySpec.vars false W args.toList ds gs before) (hk : Rows.uptoSmall H (ds ++ gs) = true) (hL : laidMetH Tryz.prog Rows.termMemoryUptoRow.laid W) :
    Calls Tryz.prog 4 args W fun e W' => ∃ v, e = .returned v ∧ Rows.termMemorySpec.post enc Tryz.prog Tryz.f4 false true false false W args v W' := by
  have hW' := hW
  obtain ⟨p, q, hA0, hV, rfl, hfz, hnd⟩ := hW
  have hA : DataW.TrodAll enc Tryz.prog W 0 (fun _ => true) true Tryz.f4.params.toList args.toList ds p := hA0
  rw [Tryz.params4] at hA hval
  obtain ⟨v0, v1, v2, v3, v4, d0, d1, d2, d3, d4, p0, p1, p2, p3, p4, rfl, rfl, rfl, h0, h1, h2, h3, h4⟩ := trodAll_five hA
  obtain ⟨rfl, rfl⟩ := trodVars_none hV
  have hb5 := mem_five hk
  obtain ⟨la, pl, pc, ns, ep, hpa, hpl, hN⟩ := open_pathL (hval 4 25 v4 rfl rfl) h4 (by omega)
  obtain ⟨a, ea, ha, hca, pa⟩ := open_arg_nums (hval 0 24 v0 rfl rfl) h0 1048576 (by omega) (by omega)
  obtain ⟨b, eb, hb, hcb, pb⟩ := open_arg_nums (hval 1 24 v1 rfl rfl) h1 1048576 (by omega) (by omega)
  obtain ⟨sa, len, cap, e1, l1, o1⟩ := open_bindsL (hval 2 32 v2 rfl rfl) h2
  obtain ⟨au, len', cap', e2, l2, o2⟩ := open_bindsL (hval 3 32 v3 rfl rfl) h3
  have m1 := bulk_list l1
  have m2 := bulk_list l2
  obtain ⟨ss, hs, ks⟩ := o1 1048576 (by omega) (by omega)
  obtain ⟨us, hu, ku⟩ := o2 1048576 (by omega) (by omega)
  have lt0 : ∀ x ∈ p0, x.block < W.heap.size := by obtain ⟨m, hm⟩ := h0; exact DataW.trod_lt m _ _ _ hm
  have lt1 : ∀ x ∈ p1, x.block < W.heap.size := by obtain ⟨m, hm⟩ := h1; exact DataW.trod_lt m _ _ _ hm
  have lt2 : ∀ x ∈ p2, x.block < W.heap.size := by obtain ⟨m, hm⟩ := h2; exact DataW.trod_lt m _ _ _ hm
  have lt3 : ∀ x ∈ p3, x.block < W.heap.size := by obtain ⟨m, hm⟩ := h3; exact DataW.trod_lt m _ _ _ hm
  have lt4 : ∀ x ∈ p4, x.block < W.heap.size := by obtain ⟨m, hm⟩ := h4; exact DataW.trod_lt m _ _ _ hm
  clear hA0 o1 o2
  have htab := mem_pow_table hL
  have hwalk : Calls Tryz.prog 4 #[v0, v1, v2, v3, v4] W fun e W' => e = .returned (.bool true) ∧ Below W.heap.size W W' := by
    rw [ea, eb, e1, e2, ep]
    have hca' : (code a).length ≤ 4194304 := by omega
    have hcb' : (code b).length ≤ 4194304 := by omega
    have ks' : ∀ p ∈ ss, (code p.2).length ≤ 4194304 := fun p hp => by have := ks p hp; omega
    have ku' : ∀ p ∈ us, (code p.2).length ≤ 4194304 := fun p hp => by have := ku p hp; omega
    exact termMemory_any a b ss us sa au la len cap len' cap' pl pc ns W ha hb hs hu hN hpa (by omega) hca' hcb' (fun h => pw_of h pa) (fun h => pw_of h pb) (wide_of ha hca') (wide_of hb hcb') (fun p hp => wide_of (hs.each p hp) (ks' p hp)) (fun p hp => wide_of (hu.each p hp) (ku' p hp)) ks' ku' (by omega) (by omega) htab
  refine hwalk.mono fun e W' ⟨he, bel⟩ => ?_
  subst he
  exact ⟨_, rfl, _, _, _, [], _, [], hW', trodAll_mk1 (shut_bool Tryz.underlying4 _), ⟨p0, _, (Below.trod mem_laidOut (by kernel_rfl) (of_decide_eq_true (by kernel_rfl)) h0 bel lt0), ⟨p1, _, (Below.trod mem_laidOut (by kernel_rfl) (of_decide_eq_true (by kernel_rfl)) h1 bel lt1), ⟨p2, _, (Below.trod mem_laidOut (by kernel_rfl) (of_decide_eq_true (by kernel_rfl)) h2 bel lt2), ⟨p3, _, (Below.trod mem_laidOut (by kernel_rfl) (of_decide_eq_true (by kernel_rfl)) h3 bel lt3), trodAll_mk1 (Below.trod mem_laidOut (by kernel_rfl) (of_decide_eq_true (by kernel_rfl)) h4 bel lt4), rfl⟩, rfl⟩, rfl⟩, rfl⟩, rfl, bel.frame _, fun h => by cases h⟩

/-- The term of the witness. -/
def memArg : Value := .agg #[.int .i64 0, .int .i64 0, .string ⟨#[]⟩, .slice none 0 0]
def memData {H : Type} : DataW H := .agg [.lit (.int .i64 0), .lit (.int .i64 0), .lit (.string []), .nil]
/-- A block of cells, with others in it. -/
def memCells (cs : Array Value) : Obj → Obj
  | .cells _ t frozen => .cells cs t frozen
  | o => o
def memTab32 : List Int := [0, 1, 28, 2, 29, 14, 24, 3, 30, 22, 20, 15, 25, 17, 4, 8, 31, 27, 13, 23, 21, 19, 16, 7, 26, 12, 18, 6, 11, 5, 10, 9]
def memTab64 : List Int := [0, 1, 56, 2, 57, 49, 28, 3, 61, 58, 42, 50, 38, 29, 17, 4, 62, 47, 59, 36, 45, 43, 51, 22, 53, 39, 33, 30, 24, 18, 12, 5, 63, 55, 48, 27, 60, 41, 37, 16, 46, 35, 44, 21, 52, 32, 23, 11, 54, 26, 40, 15, 34, 20, 31, 10, 25, 14, 19, 9, 13, 8, 7, 6]
def memTabs (h : Array Obj) : Array Obj := ((h.modify 0 (memCells (Lib.pow10Tab.map (Value.int .u64)).toArray)).modify 1 (memCells (memTab32.map (Value.int .u8)).toArray)).modify 2 (memCells (memTab64.map (Value.int .u8)).toArray)
/-- A world for the witness: the settled one, the three tables holding what their initialisers lay. -/
noncomputable def memWorld (os : Os) : World :=
  { World.holding Tryz.prog os ⟨#[], #[], []⟩ with heap := memTabs (World.holding Tryz.prog os ⟨#[], #[], []⟩).heap }
set_option maxRecDepth 100000 in
theorem mem_met (os : Os) : laidMet Tryz.prog Rows.termMemoryUptoRow.laid ((memWorld os).forCall (fun _ _ => 0) ⟨#[], #[memArg, memArg, .slice none 0 0, .slice none 0 0, .slice none 0 0], []⟩).memory :=
  laidMet_of_run' 8 (by kernel_rfl) (by kernel_rfl)
set_option maxRecDepth 100000 in
theorem mem_reads (os : Os) {H : Type} (enc : TypeId × Value → H) : ∃ places, DataW.whole enc Tryz.prog ((memWorld os).forCall (fun _ _ => 0) ⟨#[], #[memArg, memArg, .slice none 0 0, .slice none 0 0, .slice none 0 0], []⟩).memory Tryz.f4.params.toList Rows.termMemorySpec.vars false #[memArg, memArg, .slice none 0 0, .slice none 0 0, .slice none 0 0].toList 8 = some ([memData, memData, .nil, .nil, .nil], [], places) :=
  ⟨[], by kernel_rfl⟩

set_option maxRecDepth 100000 in
theorem mem_lifted (os : Os) (started : os.Started) (H : Type) (enc : TypeId × Value → H) (F : Stop.Interp) :
    ReturnsInHanded {} Tryz.checked os 4 .any ((Rows.OpenSpec.upto Rows.termMemorySpec).preRow enc Tryz.prog Tryz.f4 Rows.termMemoryUptoRow.domain false Rows.termMemoryUptoRow.laid) (((Rows.OpenSpec.upto Rows.termMemorySpec).at F).post enc Tryz.prog Tryz.f4 false true false false) := by
  obtain ⟨places, hx⟩ := mem_reads os enc
  refine returnsInHanded_of_row (C := Tryz.checked) (s := Rows.OpenSpec.upto Rows.termMemorySpec) mem_own started (by kernel_rfl) Tryz.func4
    (witness_row_at (enc := enc) (C := Tryz.checked) false (memWorld os) #[memArg, memArg, .slice none 0 0, .slice none 0 0, .slice none 0 0] rfl (by kernel_rfl) (by kernel_rfl) (by kernel_rfl)
      (OpenSpec.preRow_of_cond 8 hx (by kernel_rfl) (fun k hk => by cases hk; kernel_rfl) (by kernel_rfl) (mem_met os))) ?_
  intro W base args ds gs before hval hW _ hcond _ hL _ _
  exact mem_contract H enc W base args ds gs before hval hW (hcond _ rfl) hL

theorem mem_said : Rows.TermMemoryUptoSaid :=
  OpenClaim.holds_of_cond 4 Tryz.f4 rfl rfl rfl rfl rfl rfl rfl ⟨rfl, rfl, rfl, rfl, rfl⟩ rfl rfl rfl rfl rfl (by kernel_rfl) Tryz.func4 (by kernel_rfl)
    (of_decide_eq_true (by kernel_rfl)) (by unfold Func.isWrapper; first | (rw [if_pos (by decide +kernel)]; kernel_rfl) | (rw [if_neg (by decide +kernel)]; exact ⟨rfl, rfl⟩))
    (fun os started H enc _ F => by rw [OpenClaim.pre_eq_preRow]; exact mem_lifted os started H enc F)

theorem mem_plain (f : FuncId) (fn : Func) (hf : Tryz.pinned.checked.prog.funcNamed "hornbook/hornkeep.TermMemory" = some f) (hfn : Tryz.pinned.checked.prog.funcs[f]? = some fn) :
    false = Tryz.pinned.checked.prog.looks [] ∧ ∀ (j : Nat) t, fn.params[j]? = some t → Tryz.pinned.checked.prog.wantsStandIn t = false := by
  obtain rfl : f = 4 := Option.some.inj ((show Tryz.prog.funcNamed "hornbook/hornkeep.TermMemory" = some 4 by kernel_rfl).symm.trans hf) |>.symm
  obtain rfl : fn = Tryz.f4 := (Option.some.inj (Tryz.func4.symm.trans hfn)).symm
  refine ⟨by kernel_rfl, fun j t ht => ?_⟩
  rw [Tryz.params4] at ht
  have hm : t = 24 ∨ t = 32 ∨ t = 25 := by simpa using Array.mem_of_getElem? ht
  rcases hm with rfl | rfl | rfl
  · exact (show Tryz.prog.wantsStandIn 24 = false by kernel_rfl)
  · exact (show Tryz.prog.wantsStandIn 32 = false by kernel_rfl)
  · exact (show Tryz.prog.wantsStandIn 25 = false by kernel_rfl)

theorem termMemory_holds : Rows.TermMemoryUptoCardSaid :=
  Claim7.holds_tied_plain_at .later [] _ _ _ _ mem_said (fun _ h => by cases h) (by kernel_rfl) (fun _ h => by cases h) termMemoryUpto_row_tie rfl ⟨rfl, rfl⟩ (by kernel_rfl) rfl mem_plain (by kernel_rfl)
end Go.Proofs.YtojefplapklbmaaGreatDoor

