import Derived.Test.YtodolgpcnleahaaDoorCards
import Derived.Test.YtodolgpcnleahaaDoorTie
import Derived.Test.YtodolgpcnleahaaDoorOpL
import Derived.ProofKit
import Derived.OpenShut
import Derived.JoinedCond
import Derived.Deep.DeepHandedRow
import Derived.Lib.LaidTab
import Derived.Shelf.Vars
/- Proved here: hornlaw.TextOps returns true at any list of operators that can be read as data, and leaves it, and all else that lay, as they were; the condition: the package-level variables on the row's list hold what the program's text lays (the card ties them). -/
namespace Go.Proofs.YtodolgpcnleahaaDoor
open Go.ChangeShapes Go.WideShapes Go.ChangeAt Go.RowKit

theorem rowOf {α : Type} {p : Nat → α → Prop} : ∀ {n : Nat}, (∀ i, i < n → ∃ x, p i x) → ∃ l : List α, l.length = n ∧ ∀ j u, l[j]? = some u → p j u
  | 0, _ => ⟨[], rfl, fun j u h => by simp at h⟩
  | n + 1, h => by
    obtain ⟨l, hl, hp⟩ := rowOf (n := n) (fun i hi => h i (by omega))
    obtain ⟨x, hx⟩ := h n (by omega)
    refine ⟨l ++ [x], by simp [hl], fun j u hu => ?_⟩
    by_cases hj : j < n
    · rw [List.getElem?_append_left (by omega)] at hu; exact hp j u hu
    · rw [List.getElem?_append_right (by omega)] at hu
      have hj2 : j - l.length = 0 := by
        by_cases e : j - l.length = 0
        · exact e
        · rw [List.getElem?_eq_none (by simp; omega)] at hu; cases hu
      rw [hj2] at hu
      simp at hu
      have : j = n := by omega
      subst this; subst hu; exact hx
theorem cellLt {w : World} {b o : Nat} {v : Value} (h : w.cell? ⟨b, o, none⟩ = some v) : b < w.heap.size := by
  unfold World.cell? at h
  simp only at h
  cases hb : w.heap[b]? with
  | none => rw [hb] at h; cases h
  | some x => exact (Array.getElem?_eq_some_iff.1 hb).1
theorem Tryd.cellsOp : Tryd.prog.cellsOf 27 = 3 := by kernel_rfl
theorem Tryd.cellsS : Tryd.prog.cellsOf 9 = 1 := by kernel_rfl
theorem Tryd.cellsI : Tryd.prog.cellsOf 3 = 1 := by kernel_rfl
theorem list3 {α : Type} {l : List α} (h : l.length = 3) : ∃ a b c, l = [a, b, c] := by
  match l, h with
  | [a, b, c], _ => exact ⟨a, b, c, rfl⟩
theorem cells3 {w : World} {base : Nat} {a : Addr} {c0 c1 c2 : Value} (h : w.cells? base a 3 = some [c0, c1, c2]) : a.spot = none ∧ w.cell? ⟨a.block, a.off, none⟩ = some c0 ∧ w.cell? ⟨a.block, a.off + 1, none⟩ = some c1 ∧ w.cell? ⟨a.block, a.off + 2, none⟩ = some c2 := by
  unfold World.cells? at h
  split at h
  · obtain ⟨b, off, spot⟩ := a
    simp [List.range_succ, List.mapM_cons, Addr.add, Option.bind_eq_some_iff] at h
    obtain ⟨h0, h1, h2⟩ := h
    have hs : spot = none := World.cell?_spot h0
    subst hs
    exact ⟨rfl, h0, h1, h2⟩
  · cases h
/-- An operator that can be read: its three cells. -/
theorem open_op {H : Type} {enc : TypeId × Value → H} {w : World} {spare : Nat → Bool} {held : Bool} {fuel : Nat} {cs : List Value} {y : DataW H × List MemPlace}
    (h : DataW.trod enc Tryd.prog w 0 spare held fuel 27 cs = some y) : ∃ x : OV, cs = [.string x.name, .int .i64 x.prio, .int .i64 x.type] := by
  obtain ⟨xs, n, rfl, -, hl, hxl, hfs⟩ := DataW.trod_struct Tryd.underlying27 h
  rw [Tryd.cellsOp] at hl
  have hx3 : xs.length = 3 := hxl
  clear hxl
  obtain ⟨v0, v1, v2, rfl⟩ := list3 hl
  have f0 : DataW.trod enc Tryd.prog w 0 spare held n 9 (List.take (Tryd.prog.cellsOf 9) (List.drop 0 [v0, v1, v2])) = xs[0]? := hfs 0 _ rfl
  have f1 : DataW.trod enc Tryd.prog w 0 spare held n 3 (List.take (Tryd.prog.cellsOf 3) (List.drop 1 [v0, v1, v2])) = xs[1]? := hfs 1 _ rfl
  have f2 : DataW.trod enc Tryd.prog w 0 spare held n 3 (List.take (Tryd.prog.cellsOf 3) (List.drop 2 [v0, v1, v2])) = xs[2]? := hfs 2 _ rfl
  rw [Tryd.cellsS] at f0
  rw [Tryd.cellsI] at f1 f2
  simp only [List.drop_zero, List.drop_succ_cons, List.take_succ_cons, List.take_zero] at f0 f1 f2
  clear hfs
  obtain ⟨x0, e0⟩ : ∃ x, xs[0]? = some x := ⟨xs[0]'(by omega), List.getElem?_eq_getElem (by omega)⟩
  obtain ⟨x1, e1⟩ : ∃ x, xs[1]? = some x := ⟨xs[1]'(by omega), List.getElem?_eq_getElem (by omega)⟩
  obtain ⟨x2, e2⟩ : ∃ x, xs[2]? = some x := ⟨xs[2]'(by omega), List.getElem?_eq_getElem (by omega)⟩
  rw [e0] at f0
  rw [e1] at f1
  rw [e2] at f2
  obtain ⟨s, g0, -, -⟩ := DataW.trod_string Tryd.underlying9 f0
  obtain ⟨p, g1, -, -⟩ := DataW.trod_int Tryd.underlying3 f1
  obtain ⟨t, g2, -, -⟩ := DataW.trod_int Tryd.underlying3 f2
  simp only [List.cons.injEq, and_true] at g0 g1 g2
  subst g0 g1 g2
  exact ⟨⟨s, p, t⟩, rfl⟩
set_option maxRecDepth 100000 in
/-- A list of operators that can be read: it lies in memory as IsO says. -/
theorem open_ops {H : Type} {enc : TypeId × Value → H} {w : World} {r : Reach} {b0 : Nat} {spare : Nat → Bool} {held : Bool} {v : Value} {d : DataW H} {p : List MemPlace} (hv : Value.okWide Tryd.prog w r b0 22 v) (h : DataW.Trod enc Tryd.prog w 0 spare held 22 v d p) :
    ∃ a len cap l, v = .slice a len cap ∧ IsO w a len l := by
  obtain ⟨a, len, cap, rfl⟩ := okWide_slice Tryd.underlying22 hv
  obtain ⟨fuel, hf⟩ := h
  refine ⟨a, len, cap, ?_⟩
  have hf' : DataW.trod enc Tryd.prog w 0 spare held fuel 22 [.slice a len cap] = some (d, p) := by simpa [Value.cells] using hf
  rcases DataW.trod_slice Tryd.underlying22 hf' with ⟨g3, -⟩ | ⟨a', len', cap', elems, rest, n', hn', g3, hd, hb, hlc, hmx, hlen, hel, -, -⟩
  · simp only [List.cons.injEq, and_true, Value.slice.injEq] at g3
    obtain ⟨rfl, rfl, rfl⟩ := g3
    exact ⟨[], rfl, rfl, by omega, .inl rfl⟩
  · simp only [List.cons.injEq, and_true, Value.slice.injEq] at g3
    obtain ⟨rfl, rfl, rfl⟩ := g3
    have hbig : len ≤ 9223372036854775807 := by unfold maxLen at hmx; omega
    by_cases hl0 : len = 0
    · subst hl0
      exact ⟨[], rfl, rfl, by omega, .inl rfl⟩
    have hel' : ∀ i, i < len → ∃ q : OV, w.cells? 0 (a'.add (i * 3)) 3 = some [.string q.name, .int .i64 q.prio, .int .i64 q.type] := by
      intro i hi
      have h1 := hel i hi
      rw [List.getElem?_eq_getElem (by omega)] at h1
      obtain ⟨cs', h2, h3⟩ := Option.bind_eq_some_iff.1 h1
      obtain ⟨q, hu⟩ := open_op h3
      subst hu
      rw [Tryd.cellsOp] at h2
      exact ⟨q, h2⟩
    clear hel
    obtain ⟨b, off, spot⟩ := a'
    have hspot : spot = none := by
      obtain ⟨u, h2⟩ := hel' 0 (by omega)
      obtain ⟨s1, -⟩ := cells3 h2
      simpa [Addr.add] using s1
    subst hspot
    have hkid : ∀ i, i < len → ∃ q : OV, w.cell? ⟨b, off + i * 3, none⟩ = some (.string q.name) ∧ w.cell? ⟨b, off + i * 3 + 1, none⟩ = some (.int .i64 q.prio) ∧ w.cell? ⟨b, off + i * 3 + 2, none⟩ = some (.int .i64 q.type) := by
      intro i hi
      obtain ⟨q, h2⟩ := hel' i hi
      rw [addrAdd] at h2
      obtain ⟨-, k0, k1, k2⟩ := cells3 h2
      exact ⟨q, k0, k1, k2⟩
    obtain ⟨bs, hbl, hbs⟩ := rowOf hkid
    obtain ⟨_, hb0, _⟩ := hkid 0 (by omega)
    exact ⟨bs, rfl, hbl.symm, hbig, .inr ⟨b, off, rfl, cellLt hb0, hbs⟩⟩

theorem ops_own : ownKnob Tryd.prog.godebug = none := by kernel_rfl
theorem ops_laidOut : laidOutB Tryd.prog = true := by kernel_rfl
/-- internal/bytealg.MaxLen holds some number. -/
theorem ops_max {W : World} (h : W.ShapedOpen Tryd.prog) : ∃ m, W.cell? ⟨splitLay_ren.g 1, 0, none⟩ = some (.int .i64 m) :=
  cell_of_shapedOpen_int (zero := #[.int .i64 0]) (t := 3) h (of_decide_eq_true (by kernel_rfl)) (by kernel_rfl) rfl (by kernel_rfl) (by kernel_rfl) Tryd.underlying3

set_option maxRecDepth 100000 in
theorem ops_contract (H : Type) (enc : TypeId × Value → H) (W : World) (base : Nat) (args : Array Value) (ds gs : List (DataW H)) (before : List MemPlace)
    (hval : ∀ (j : Nat) t v, Tryd.f3.params[j]? = some t → args[j]? = some v → Value.okWide Tryd.prog W .any base t v)
    (hW : DataW.Whole enc Tryd.prog Tryd.f3.params.toList Rows.textOpsSpec.vars false W args.toList ds gs before) (hS : W.ShapedOpen Tryd.prog) :
    Calls Tryd.prog 3 args W fun e W' => ∃ v, e = .returned v ∧ Rows.textOpsSpec.post enc Tryd.prog Tryd.f3 false true false false W args v W' := by
  have hW' := hW
  obtain ⟨p, q, hA0, hV, rfl, hfz, hnd⟩ := hW
  have hA : DataW.TrodAll enc Tryd.prog W 0 (fun _ => true) true Tryd.f3.params.toList args.toList ds p := hA0
  rw [Tryd.params3] at hA hval
  obtain ⟨v0, d0, rfl, rfl, h0⟩ := trodAll_one hA
  obtain ⟨rfl, rfl⟩ := trodVars_none hV
  obtain ⟨a, len, cap, l, rfl, hl⟩ := open_ops (hval 0 22 v0 rfl rfl) h0
  have lt0 : ∀ x ∈ p, x.block < W.heap.size := by obtain ⟨m, hm⟩ := h0; exact DataW.trod_lt m _ _ _ hm
  obtain ⟨m, hm⟩ := ops_max hS
  have hwalk := textOps_any l a len cap m W hl hm (cellLt hm)
  clear hA0
  refine hwalk.mono fun e W' ⟨he, bel⟩ => ?_
  subst he
  exact ⟨_, rfl, _, _, _, [], _, [], hW', trodAll_mk1 (shut_bool Tryd.underlying4 _), (trodAll_mk1 (Below.trod ops_laidOut (by kernel_rfl) (of_decide_eq_true (by kernel_rfl)) h0 bel lt0)), rfl, bel.frame _, fun h => by cases h⟩

/-- A block of cells, with others in it. -/
def layCells (cs : Array Value) : Obj → Obj
  | .cells _ t frozen => .cells cs t frozen
  | o => o
def acceptCells : Array Value := ([128, 191, 160, 191, 128, 159, 144, 191, 128, 143] ++ List.replicate 22 0 : List Int).toArray.map (Value.int .u8)
def layTabs (h : Array Obj) : Array Obj := (h.modify 1 (layCells (Pinned.utf8FirstZ.map fun n : Nat => Value.int .u8 (n : Int)).toArray)).modify 2 (layCells acceptCells)
/-- A world for the witness: the settled one, the two tables holding what their initialisers lay. -/
noncomputable def opsWorld (os : Os) : World :=
  { World.holding Tryd.prog os ⟨#[], #[], []⟩ with heap := layTabs (World.holding Tryd.prog os ⟨#[], #[], []⟩).heap }
set_option maxRecDepth 100000 in
theorem ops_met (os : Os) : laidMet Tryd.prog Rows.textOpsRow.laid ((opsWorld os).forCall (fun _ _ => 0) ⟨#[], #[.slice none 0 0], []⟩).memory :=
  laidMet_of_run' 8 (by kernel_rfl) (by kernel_rfl)
set_option maxRecDepth 100000 in
theorem ops_reads (os : Os) {H : Type} (enc : TypeId × Value → H) : ∃ places, DataW.whole enc Tryd.prog ((opsWorld os).forCall (fun _ _ => 0) ⟨#[], #[.slice none 0 0], []⟩).memory Tryd.f3.params.toList Rows.textOpsSpec.vars false #[Value.slice none 0 0].toList 8 = some ([.nil], [], places) :=
  ⟨[], by kernel_rfl⟩

set_option maxRecDepth 100000 in
theorem ops_lifted (os : Os) (started : os.Started) (H : Type) (enc : TypeId × Value → H) (F : Stop.Interp) :
    ReturnsInHanded {} Tryd.checked os 3 .any ((OpenSpec.ofChange Rows.textOpsSpec).preRow enc Tryd.prog Tryd.f3 Rows.textOpsRow.domain false Rows.textOpsRow.laid) (((OpenSpec.ofChange Rows.textOpsSpec).at F).post enc Tryd.prog Tryd.f3 false true false false) := by
  obtain ⟨places, hx⟩ := ops_reads os enc
  refine returnsInHanded_of_row (C := Tryd.checked) (s := OpenSpec.ofChange Rows.textOpsSpec) ops_own started (by kernel_rfl) Tryd.func3
    (witness_row_at (enc := enc) (C := Tryd.checked) false (opsWorld os) #[.slice none 0 0] rfl (by kernel_rfl) (by kernel_rfl) (by kernel_rfl)
      (OpenSpec.preRow_of_cond 8 hx (by kernel_rfl) (fun k hk => by cases hk) (by kernel_rfl) (ops_met os))) ?_
  intro W base args ds gs before hval hW _ _ _ _ hS _
  exact ops_contract H enc W base args ds gs before hval hW hS

theorem ops_said : Rows.TextOpsSaid :=
  OpenClaim.holds_of_cond 3 Tryd.f3 rfl rfl rfl rfl rfl rfl rfl ⟨rfl, rfl, rfl, rfl, rfl⟩ rfl rfl rfl rfl rfl (by kernel_rfl) Tryd.func3 (by kernel_rfl)
    (of_decide_eq_true (by kernel_rfl)) (by unfold Func.isWrapper; first | (rw [if_pos (by decide +kernel)]; kernel_rfl) | (rw [if_neg (by decide +kernel)]; exact ⟨rfl, rfl⟩))
    (fun os started H enc _ F => by rw [OpenClaim.pre_eq_preRow]; exact ops_lifted os started H enc F)

theorem ops_plain (f : FuncId) (fn : Func) (hf : Tryd.pinned.checked.prog.funcNamed "hornbook/hornlaw.TextOps" = some f) (hfn : Tryd.pinned.checked.prog.funcs[f]? = some fn) :
    false = Tryd.pinned.checked.prog.looks [] ∧ ∀ (j : Nat) t, fn.params[j]? = some t → Tryd.pinned.checked.prog.wantsStandIn t = false := by
  obtain rfl : f = 3 := Option.some.inj ((show Tryd.prog.funcNamed "hornbook/hornlaw.TextOps" = some 3 by kernel_rfl).symm.trans hf) |>.symm
  obtain rfl : fn = Tryd.f3 := (Option.some.inj (Tryd.func3.symm.trans hfn)).symm
  refine ⟨by kernel_rfl, fun j t ht => ?_⟩
  rw [Tryd.params3] at ht
  obtain rfl : t = 22 := by simpa using Array.mem_of_getElem? ht
  exact (show Tryd.prog.wantsStandIn 22 = false by kernel_rfl)

theorem textOps_holds : Rows.TextOpsCardSaid :=
  Claim7.holds_tied_plain_at .later [] _ _ _ _ ops_said (fun _ h => by cases h) (by kernel_rfl) (fun _ h => by cases h) textOps_row_tie rfl ⟨rfl, rfl⟩ (by kernel_rfl) rfl ops_plain (by kernel_rfl)
end Go.Proofs.YtodolgpcnleahaaDoor

