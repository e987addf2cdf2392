import Derived.Test.YtjdanfhbccpnpaaDoorCards
import Derived.Test.YtjdanfhbccpnpaaDoorTie
import Derived.Test.YtjdanfhbccpnpaaDoorO
import Derived.Test.YtjdanfhbccpnpaaDoorBaKs
import Derived.ProofKit
import Derived.OpenShut
import Derived.JoinedCond
import Derived.Deep.DeepHandedRow
import Derived.Lib.LaidTab
import Derived.Shelf.Vars
/- Proved here: hornlaw.BaseMakes returns true at any four arguments that can be read as data and are together of bulk at most 1048576, and leaves them, and all else that lay, as they were; the tables of unicode/utf8 hold what the program's text lays. -/
namespace Go.Proofs.YtjdanfhbccpnpaaDoor
open Go.ChangeShapes Go.WideShapes Go.ChangeAt Go.RowKit Go.Joins Go.Shelf

theorem Tryd.cells8 : Tryd.prog.cellsOf 26 = 8 := by kernel_rfl
theorem list8 {α : Type} {l : List α} (h : l.length = 8) : ∃ a b c d e f g i, l = [a, b, c, d, e, f, g, i] := by
  match l, h with
  | [a, b, c, d, e, f, g, i], _ => exact ⟨a, b, c, d, e, f, g, i, rfl⟩
set_option maxRecDepth 100000 in
/-- An argument that is a clause: from its bulk on it is two terms, of no more parts than its bulk. -/
theorem open_clause {H : Type} {enc : TypeId × Value → H} {w : World} {r : Reach} {b0 : Nat} {spare : Nat → Bool} {held : Bool} {v : Value} {d : DataW H} {p : List MemPlace} (hv : Value.okWide Tryd.prog w r b0 26 v) (h : DataW.Trod enc Tryd.prog w 0 spare held 26 v d p) :
    ∀ m, Rows.uptoBulk d ≤ m → m ≤ 2199023255552 → ∃ th tb : Tm m, v = clV th.tv tb.tv ∧ IsT w.heap.size w th ∧ IsT w.heap.size w tb ∧ (code th).length + (code tb).length ≤ Rows.uptoBulk d := by
  obtain ⟨cs, rfl, _⟩ := okWide_struct Tryd.underlying26 hv
  obtain ⟨fuel, hf⟩ := h
  intro m hm hlim
  obtain ⟨xs, n, rfl, hd, hl, hxl, hfs⟩ := DataW.trod_struct Tryd.underlying26 hf
  rw [Tryd.cells8] at hl
  have hx2 : xs.length = 2 := hxl
  clear hxl
  obtain ⟨v0, v1, v2, v3, v4, v5, v6, v7, hcs⟩ := list8 hl
  rw [hcs] at hfs
  have f0 : DataW.trod enc Tryd.prog w 0 spare held n 24 (List.take (Tryd.prog.cellsOf 24) (List.drop 0 [v0, v1, v2, v3, v4, v5, v6, v7])) = xs[0]? := hfs 0 _ rfl
  have f1 : DataW.trod enc Tryd.prog w 0 spare held n 24 (List.take (Tryd.prog.cellsOf 24) (List.drop 4 [v0, v1, v2, v3, v4, v5, v6, v7])) = xs[1]? := hfs 1 _ rfl
  rw [Tryd.cells28] at f0 f1
  simp only [List.drop_zero, List.drop_succ_cons, List.take_succ_cons, List.take_zero] at f0 f1
  clear hfs
  obtain ⟨x0, x1, rfl⟩ : ∃ x0 x1, xs = [x0, x1] := by
    match xs, hx2 with
    | [x0, x1], _ => exact ⟨x0, x1, rfl⟩
  simp only [List.getElem?_cons_zero, List.getElem?_cons_succ] at f0 f1
  have hd1 : d = .agg ([x0, x1].map (·.1)) := (Prod.ext_iff.1 hd).1
  have hbk : Rows.uptoBulk x0.1 + Rows.uptoBulk x1.1 ≤ Rows.uptoBulk d := by
    rw [hd1]
    simp only [Rows.uptoBulk, List.map_cons, List.map_nil, Rows.uptoBulkAll]
    omega
  obtain ⟨th0, g0, hU0, l0, -⟩ := open_nums n n (Nat.le_refl _) n (Nat.le_refl _) _ _ f0
  obtain ⟨tb0, g1, hU1, l1, -⟩ := open_nums n n (Nat.le_refl _) n (Nat.le_refl _) _ _ f1
  have p0 : (parts th0).length ≤ Rows.uptoBulk x0.1 := by simpa [code] using l0
  have p1 : (parts tb0).length ≤ Rows.uptoBulk x1.1 := by simpa [code] using l1
  obtain ⟨th, e0, hT0, q0⟩ := lower n th0 hU0 m (by omega) hlim
  obtain ⟨tb, e1, hT1, q1⟩ := lower n tb0 hU1 m (by omega) hlim
  rw [← e0] at g0
  rw [← e1] at g1
  have l0' : (code th).length ≤ Rows.uptoBulk x0.1 := by simpa [code, q0] using p0
  have l1' : (code tb).length ≤ Rows.uptoBulk x1.1 := by simpa [code, q1] using p1
  refine ⟨th, tb, ?_, hT0, hT1, by omega⟩
  · simp only [List.cons.injEq, and_true] at g0 g1
    obtain ⟨rfl, rfl, rfl, rfl⟩ := g0
    obtain ⟨rfl, rfl, rfl, rfl⟩ := g1
    have : cs.toList = [.int .i64 th.tv.k, .int .i64 th.tv.N, .string th.tv.s, .slice th.tv.a th.tv.len th.tv.cap, .int .i64 tb.tv.k, .int .i64 tb.tv.N, .string tb.tv.s, .slice tb.tv.a tb.tv.len tb.tv.cap] := by simpa [Value.cells] using hcs
    unfold clV
    rw [← this]

theorem makes_own : ownKnob Tryd.prog.godebug = none := by kernel_rfl
theorem makes_laidOut : laidOutB Tryd.prog = true := by kernel_rfl
/-- internal/bytealg.MaxLen holds some number. -/
theorem makes_max {W : World} (h : W.ShapedOpen Tryd.prog) : ∃ m, W.cell? ⟨splitLay_ren.g 1, 0, none⟩ = some (.int .i64 m) :=
  cell_of_shapedOpen_int (zero := #[.int .i64 0]) (t := 3) h (of_decide_eq_true (by kernel_rfl)) (by kernel_rfl) rfl (by kernel_rfl) (by kernel_rfl) Tryd.underlying3
theorem makes_bulk {H : Type} {d0 d1 d2 d3 : DataW H} (hk : Rows.uptoSmall H ([d0, d1, d2, d3] ++ []) = true) : Rows.uptoBulk d0 + Rows.uptoBulk d1 ≤ 1048576 := by
  have h : Rows.uptoBulkAll [d0, d1, d2, d3] ≤ 1048576 := of_decide_eq_true hk
  simp only [Rows.uptoBulkAll] at h
  omega

set_option maxRecDepth 100000 in
theorem makes_contract (B : MakesOps) (hB : ∀ W : World, W.ShapedOpen Tryd.prog → ∃ k, k ≤ W.heap.size ∧ B.Needs k W) (H : Type) (enc : TypeId × Value → H) (W : World) (base : Nat) (args : Array Value) (ds gs : List (DataW H)) (before : List MemPlace)
    (hval : ∀ (j : Nat) t v, Tryd.f3.params[j]? = some t → args[j]? = some v → Value.okWide Tryd.prog W .any base t v)
    (hW : DataW.Whole enc Tryd.prog Tryd.f3.params.toList Rows.baseMakesSpec.vars false W args.toList ds gs before) (hk : Rows.uptoSmall H (ds ++ gs) = true) (hS : W.ShapedOpen Tryd.prog) :
    Calls Tryd.prog 3 args W fun e W' => ∃ v, e = .returned v ∧ Rows.baseMakesSpec.post enc Tryd.prog Tryd.f3 false true false false W args v W' := by
  have hW' := hW
  obtain ⟨p, q, hA0, hV, rfl, hfz, hnd⟩ := hW
  have hA : DataW.TrodAll enc Tryd.prog W 0 (fun _ => true) true Tryd.f3.params.toList args.toList ds p := hA0
  rw [Tryd.params3] at hA hval
  obtain ⟨v0, v1, v2, v3, d0, d1, d2, d3, p0, p1, p2, p3, rfl, rfl, rfl, h0, h1, h2, h3⟩ := trodAll_four hA
  obtain ⟨rfl, rfl⟩ := trodVars_none hV
  have hb := makes_bulk hk
  obtain ⟨nn, hnn⟩ : ∃ nn, nn = 1048576 := ⟨_, rfl⟩
  obtain ⟨s, rfl⟩ := okWide_string Tryd.underlying9 (hval 2 9 v2 rfl rfl)
  obtain ⟨i, rfl⟩ := okWide_int Tryd.underlying3 (hval 3 3 v3 rfl rfl)
  obtain ⟨t, ea, ha, la, -⟩ := open_arg_nums (hval 0 24 v0 rfl rfl) h0 (nn + 1) (by omega) (by omega)
  obtain ⟨th, tb, eb, hh, hbd, lb⟩ := open_clause (hval 1 26 v1 rfl rfl) h1 (nn + 1) (by omega) (by omega)
  have lt0 : ∀ x ∈ p0, x.block < W.heap.size := by obtain ⟨m, hm⟩ := h0; exact DataW.trod_lt m _ _ _ hm
  have lt1 : ∀ x ∈ p1, x.block < W.heap.size := by obtain ⟨m, hm⟩ := h1; exact DataW.trod_lt m _ _ _ hm
  have lt2 : ∀ x ∈ p2, x.block < W.heap.size := by obtain ⟨m, hm⟩ := h2; exact DataW.trod_lt m _ _ _ hm
  have lt3 : ∀ x ∈ p3, x.block < W.heap.size := by obtain ⟨m, hm⟩ := h3; exact DataW.trod_lt m _ _ _ hm
  obtain ⟨m, hm⟩ := makes_max hS
  obtain ⟨kN, hkN, hN⟩ := hB W hS
  have hwalk : Calls Tryd.prog 3 #[v0, v1, .string s, .int .i64 i] W fun e W' => e = .returned (.bool true) ∧ Below W.heap.size W W' := by
    rw [ea, eb]; exact baseMakes_any B kN t th tb s i m W ha hh hbd (by omega) (by omega) hN hkN hm (cell_lt hm)
  clear hA0
  refine hwalk.mono fun e W' ⟨he, bel⟩ => ?_
  subst he
  exact ⟨_, rfl, _, _, _, [], _, [], hW', trodAll_mk1 (shut_bool Tryd.underlying4 _), (trodAll_mk4 (Below.trod makes_laidOut (by kernel_rfl) (of_decide_eq_true (by kernel_rfl)) h0 bel lt0) (Below.trod makes_laidOut (by kernel_rfl) (of_decide_eq_true (by kernel_rfl)) h1 bel lt1) (Below.trod makes_laidOut (by kernel_rfl) (of_decide_eq_true (by kernel_rfl)) h2 bel lt2) (Below.trod makes_laidOut (by kernel_rfl) (of_decide_eq_true (by kernel_rfl)) h3 bel lt3)), rfl, bel.frame _, fun h => by cases h⟩

/-- A block of cells, with others in it. -/
def layCells (cs : Array Value) : Obj → Obj
  | .cells _ t frozen => .cells cs t frozen
  | o => o
def acceptCells : Array Value := ([128, 191, 160, 191, 128, 159, 144, 191, 128, 143] ++ List.replicate 22 0 : List Int).toArray.map (Value.int .u8)
def layTabs (h : Array Obj) : Array Obj := (h.modify 1 (layCells (Pinned.utf8FirstZ.map fun n : Nat => Value.int .u8 (n : Int)).toArray)).modify 2 (layCells acceptCells)
def makesArgs : Array Value := #[.agg #[.int .i64 0, .int .i64 0, .string ⟨#[]⟩, .slice none 0 0], .agg #[.int .i64 0, .int .i64 0, .string ⟨#[]⟩, .slice none 0 0, .int .i64 0, .int .i64 0, .string ⟨#[]⟩, .slice none 0 0], .string ⟨#[]⟩, .int .i64 0]
/-- A world for the witness: the settled one, the two tables holding what their initialisers lay. -/
noncomputable def makesWorld (os : Os) : World :=
  { World.holding Tryd.prog os ⟨#[], #[], []⟩ with heap := layTabs (World.holding Tryd.prog os ⟨#[], #[], []⟩).heap }
set_option maxRecDepth 100000 in
theorem makes_met (os : Os) : laidMet Tryd.prog Rows.baseMakesUptoRow.laid ((makesWorld os).forCall (fun _ _ => 0) ⟨#[], makesArgs, []⟩).memory :=
  laidMet_of_run' 8 (by kernel_rfl) (by kernel_rfl)
set_option maxRecDepth 100000 in
theorem makes_reads (os : Os) {H : Type} (enc : TypeId × Value → H) : ∃ places, DataW.whole enc Tryd.prog ((makesWorld os).forCall (fun _ _ => 0) ⟨#[], makesArgs, []⟩).memory Tryd.f3.params.toList Rows.baseMakesSpec.vars false makesArgs.toList 8 = some ([.agg [.lit (.int .i64 0), .lit (.int .i64 0), .lit (.string []), .nil], .agg [.agg [.lit (.int .i64 0), .lit (.int .i64 0), .lit (.string []), .nil], .agg [.lit (.int .i64 0), .lit (.int .i64 0), .lit (.string []), .nil]], .lit (.string []), .lit (.int .i64 0)], [], places) :=
  ⟨[], by kernel_rfl⟩

set_option maxRecDepth 100000 in
theorem makes_lifted (B : MakesOps) (hB : ∀ W : World, W.ShapedOpen Tryd.prog → ∃ k, k ≤ W.heap.size ∧ B.Needs k W) (os : Os) (started : os.Started) (H : Type) (enc : TypeId × Value → H) (F : Stop.Interp) :
    ReturnsInHanded {} Tryd.checked os 3 .any ((Rows.OpenSpec.upto Rows.baseMakesSpec).preRow enc Tryd.prog Tryd.f3 Rows.baseMakesUptoRow.domain false Rows.baseMakesUptoRow.laid) (((Rows.OpenSpec.upto Rows.baseMakesSpec).at F).post enc Tryd.prog Tryd.f3 false true false false) := by
  obtain ⟨places, hx⟩ := makes_reads os enc
  refine returnsInHanded_of_row (C := Tryd.checked) (s := Rows.OpenSpec.upto Rows.baseMakesSpec) makes_own started (by kernel_rfl) Tryd.func3
    (witness_row_at (enc := enc) (C := Tryd.checked) false (makesWorld os) makesArgs rfl (by kernel_rfl) (by kernel_rfl) (by kernel_rfl)
      (OpenSpec.preRow_of_cond 8 hx (by kernel_rfl) (fun k hk => by cases hk; kernel_rfl) (by kernel_rfl) (makes_met os))) ?_
  intro W base args ds gs before hval hW _ hcond _ _ hS _
  exact makes_contract B hB H enc W base args ds gs before hval hW (hcond _ rfl) hS

theorem makes_said (B : MakesOps) (hB : ∀ W : World, W.ShapedOpen Tryd.prog → ∃ k, k ≤ W.heap.size ∧ B.Needs k W) : Rows.BaseMakesUptoSaid :=
  OpenClaim.holds_of_cond 3 Tryd.f3 rfl rfl rfl rfl rfl rfl rfl ⟨rfl, rfl, rfl, rfl, rfl⟩ rfl rfl rfl rfl rfl (by kernel_rfl) Tryd.func3 (by kernel_rfl)
    (of_decide_eq_true (by kernel_rfl)) (by unfold Func.isWrapper; first | (rw [if_pos (by decide +kernel)]; kernel_rfl) | (rw [if_neg (by decide +kernel)]; exact ⟨rfl, rfl⟩))
    (fun os started H enc _ F => by rw [OpenClaim.pre_eq_preRow]; exact makes_lifted B hB os started H enc F)

theorem makes_plain (f : FuncId) (fn : Func) (hf : Tryd.pinned.checked.prog.funcNamed "hornbook/hornlaw.BaseMakes" = some f) (hfn : Tryd.pinned.checked.prog.funcs[f]? = some fn) :
    false = Tryd.pinned.checked.prog.looks [] ∧ ∀ (j : Nat) t, fn.params[j]? = some t → Tryd.pinned.checked.prog.wantsStandIn t = false := by
  obtain rfl : f = 3 := Option.some.inj ((show Tryd.prog.funcNamed "hornbook/hornlaw.BaseMakes" = some 3 by kernel_rfl).symm.trans hf) |>.symm
  obtain rfl : fn = Tryd.f3 := (Option.some.inj (Tryd.func3.symm.trans hfn)).symm
  refine ⟨by kernel_rfl, fun j t ht => ?_⟩
  rw [Tryd.params3] at ht
  have hm : t = 24 ∨ t = 26 ∨ t = 9 ∨ t = 3 := by simpa using Array.mem_of_getElem? ht
  rcases hm with rfl | rfl | rfl | rfl
  · exact (show Tryd.prog.wantsStandIn 24 = false by kernel_rfl)
  · exact (show Tryd.prog.wantsStandIn 26 = false by kernel_rfl)
  · exact (show Tryd.prog.wantsStandIn 9 = false by kernel_rfl)
  · exact (show Tryd.prog.wantsStandIn 3 = false by kernel_rfl)

/-- Over any contracts of base's functions: at landing, give them (makesOps), and state the card. -/
theorem baseMakes_over (B : MakesOps) (hB : ∀ W : World, W.ShapedOpen Tryd.prog → ∃ k, k ≤ W.heap.size ∧ B.Needs k W) : Rows.BaseMakesUptoCardSaid :=
  Claim7.holds_tied_plain_at .later [] _ _ _ _ (makes_said B hB) (fun _ h => by cases h) (by kernel_rfl) (fun _ h => by cases h) baseMakesUpto_row_tie rfl ⟨rfl, rfl⟩ (by kernel_rfl) rfl makes_plain (by kernel_rfl)
end Go.Proofs.YtjdanfhbccpnpaaDoor

