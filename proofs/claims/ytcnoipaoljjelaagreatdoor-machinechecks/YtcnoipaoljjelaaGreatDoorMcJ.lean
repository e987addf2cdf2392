import Derived.Test.YtcnoipaoljjelaaGreatDoorMcD
import Derived.Test.YtcnoipaoljjelaaGreatDoorMcI
import Derived.WideKeyEntry
/- Entries of code: machine.areEntries. (Written by wip/mjgen.py.) -/
namespace Go.Proofs.YtcnoipaoljjelaaGreatDoor
open Go.RowKit Go.Shelf Go.Maps Go.ChangeMaps Go.ChangeShapes Go.WideShapes Go.MapKept
open Go.WideMaps (KeyLaw)

set_option maxRecDepth 100000 in
theorem Tryz.lawMP : KeyLaw Tryz.prog 47 := deep_law_laid Tryz.laidOutB (m := 2) (by omega) (of_decide_eq_true (by kernel_rfl)) (by kernel_rfl) (by rw [Tryz.underlying47])
set_option maxRecDepth 100000 in
/-- One more is counted: the entry is made first, or the number is asked for first. -/
theorem Mt.entry {W : World} {b : Nat} {L : List (ByteArray × Int)} (h : Mt W b L) (hl : L.length < maxLen) (s : ByteArray) (n : Int) (hk : KeyO (s, n)) (hno : ¬ ∃ q ∈ L, predI q.1 q.2 = predI s n) :
    ∃ (v0 : Value) (st : Nat) (W4 W6 : World), (Instr.mapEntry 45 (.map (some b)) (.agg #[.string s, .int .i64 n])).run Tryz.prog W = .ok (.tuple #[v0, goInt st]) W4 ∧ (Instr.lookup 45 (.map (some b)) (.agg #[.string s, .int .i64 n]) false).run Tryz.prog W4 = .ok (.int .i64 0) W4 ∧ (Instr.entryStore 45 (.map (some b)) (goInt st) (.int .i64 1)).run Tryz.prog W4 = .ok () W6 ∧ Mt W6 b (L ++ [(s, n)]) ∧ W.grownBy W6 (some b) := by
  obtain ⟨W', hrun', hMt, hgr⟩ := h.put hl s n hk hno
  have hlook := fun (U : World) (hU : Mt U b L) => hU.look s n hk false (by simpa using hno)
  obtain ⟨E, h1, h2, h3⟩ := h
  have h1' := h1
  have hkey := pred_keyM s n hk.1 hk.2
  obtain ⟨es, clock, hb, F, hs, hE⟩ := h1
  obtain ⟨v0, st, es1, clock1, hent, -, hst⟩ := WideElems.entry_then_store Tryz.lawMP Tryz.underlying45 (fun u => Tryz.zeroInt u) hb F hkey
  obtain ⟨es', clock', hes, hup⟩ := hst (setBlock W b (.map es1 clock1)) (.int .i64 1) (heap_setBlock_same hb _)
  have e6 : W' = setBlock W b (.map es' clock') := by
    exact (Result.ok.inj (hrun'.symm.trans hup)).2
  have e7 : setBlock (setBlock W b (.map es1 clock1)) b (.map es' clock') = setBlock W b (.map es' clock') := by
    simp [setBlock]
  refine ⟨v0, st, _, _, hent, ?_, hes, by rw [e7, ← e6]; exact hMt, by rw [e7, ← e6]; exact hgr⟩
  rcases Tryz.lawMP.find W hkey es.toList F.keys with ⟨k1, k2⟩ | ⟨j, e0, k1, k2, k3⟩
  · have hent2 : (Instr.mapEntry 45 (.map (some b)) (.agg #[.string s, .int .i64 n])).run Tryz.prog W = .ok (.tuple #[.int .i64 0, goInt clock]) (setBlock W b (.map (es.push ⟨.agg #[.string s, .int .i64 n], .int .i64 0, clock⟩) (clock + 1))) := by
      simp [Instr.mapEntry, run_underlying Tryz.underlying45, MapKept.run_getObj_map hb, Tryz.lawMP.check W false hkey, k1, MapKept.run_setObj_map _ hb, Result.andThen, setBlock]
    have hup0 : (Instr.mapUpdate 45 (.map (some b)) (.agg #[.string s, .int .i64 n]) (.int .i64 0)).run Tryz.prog W = .ok () (setBlock W b (.map (es.push ⟨.agg #[.string s, .int .i64 n], .int .i64 0, clock⟩) (clock + 1))) := by
      simp [Instr.mapUpdate, run_underlying Tryz.underlying45, MapKept.run_getObj_map hb, Tryz.lawMP.check W false hkey, k1, MapKept.run_setObj_map _ hb, Result.andThen, setBlock]
    obtain ⟨U, hU, hown, -⟩ := h1'.update Tryz.keyedMP Tryz.underlying45 hl (val := .int .i64 0) (d := .held 0) (ps := []) hkey rfl
    have eU : U = setBlock W b (.map es1 clock1) := (Result.ok.inj (hU.symm.trans hup0)).2.trans (Result.ok.inj (hent.symm.trans hent2)).2.symm
    rw [← eU]
    obtain ⟨v, ps, hrun, hv⟩ := hown.lookup Tryz.keyedMP Tryz.underlying45 (Tryz.zeroInt U) (zd := .held 0) (zp := []) rfl hkey
    obtain ⟨m, rfl, hp⟩ := cntElem_inv hv
    have hm := h1'.isMap
    have hkl : WideAt.IsKeyLit (predI s n) := Tryz.keyedMP.key hkey
    rw [atKey_put_same hm hkl] at hp
    simp at hp
    rw [hrun, ← hp.1]
  · have hj : es[j]? = some e0 := by simpa using k2
    have hsame : es.modify j (fun e => { e with key := .agg #[.string s, .int .i64 n] }) = es := by
      apply Array.ext'
      rw [Array.toList_modify, ChangeMaps.modify_eq_set _ _ _ _ k2]
      have : ({ e0 with key := .agg #[.string s, .int .i64 n] } : MapEntry) = e0 := by rw [← k3]
      rw [this]
      exact WideElems.set_self _ _ _ k2
    have hent2 : (Instr.mapEntry 45 (.map (some b)) (.agg #[.string s, .int .i64 n])).run Tryz.prog W = .ok (.tuple #[e0.val, goInt e0.born]) (setBlock W b (.map es clock)) := by
      simp [Instr.mapEntry, run_underlying Tryz.underlying45, MapKept.run_getObj_map hb, Tryz.lawMP.check W false hkey, k1, hj, k3, Tryz.lawMP.stays W hkey, hsame, MapKept.run_setObj_map _ hb, Result.andThen, setBlock]
    have e4 : setBlock W b (.map es1 clock1) = setBlock W b (.map es clock) := (Result.ok.inj (hent.symm.trans hent2)).2
    rw [e4]
    exact hlook _ ⟨E, ⟨es, clock, heap_setBlock_same hb _, F, hs, hE⟩, h2, h3⟩
/-- What stands in the frame and the memory, whatever of region 8 has been done. -/
def pu8 (k : Nat) : Bool := Nat.blt k 6
def ds8 (k : Nat) : Nat := k + 37
def sl8 (k : Nat) : Bool := Nat.ble 37 k && Nat.ble k 42
def F8 (mb : Nat) (s : ByteArray) (n : Int) (v0 : Value) (st : Nat) : Nat → Value
  | 37 => .map (some mb)
  | 38 => .agg #[.string s, .int .i64 n]
  | 39 => .int .i64 0
  | 40 => .int .i64 1
  | 41 => .tuple #[v0, goInt st]
  | _ => goInt st
def W8 (l : Array Bool) (W0 W4 W6 : World) : World := if l.getD 6 false = true then W6 else if l.getD 4 false = true then W4 else W0
def I8 (mb : Nat) (s : ByteArray) (n : Int) (v0 : Value) (st : Nat) (a0 : Act) (W0 W4 W6 : World) (l : Array Bool) (ac : Act) (w : World) : Prop :=
  ∃ f : Nat → Value, ac = ⟨lay sl8 a0.tmps f, a0.defers⟩ ∧ Pures pu8 ds8 (F8 mb s n v0 st) l f ∧ w = W8 l W0 W4 W6 ∧ (l.getD 6 false = true → ∀ k, k < 6 → l.getD k false = true) ∧ (l.getD 4 false = true → l.getD 0 false = true ∧ l.getD 1 false = true)
theorem I8.take {mb : Nat} {s : ByteArray} {n : Int} {v0 : Value} {st : Nat} {a0 : Act} {W0 W4 W6 : World} {l : Array Bool} {f : Nat → Value} {w : World} {i : Nat} (hi : l.getD i true = false) (hp : i < 6) (hpu : Pures pu8 ds8 (F8 mb s n v0 st) l f) (hw : w = W8 (l.setIfInBounds i true) W0 W4 W6) (h6 : l.getD 6 false = true → ∀ k, k < 6 → l.getD k false = true) (h4 : (l.setIfInBounds i true).getD 4 false = true → (l.setIfInBounds i true).getD 0 false = true ∧ (l.setIfInBounds i true).getD 1 false = true) :
    I8 mb s n v0 st a0 W0 W4 W6 (l.setIfInBounds i true) ⟨(lay sl8 a0.tmps f).setIfInBounds (i + 37) (F8 mb s n v0 st (i + 37)), a0.defers⟩ w := by
  obtain ⟨h1, h2⟩ := flag_no hi
  refine ⟨upd f (ds8 i) (F8 mb s n v0 st (ds8 i)), ?_, hpu.take h1, hw, fun hk k hk' => ?_, h4⟩
  · rw [lay_put _ _ _ _ _ (by simp [sl8]; omega)]
    rfl
  rw [flag_set h1, if_neg (by omega)] at hk
  rw [flag_set h1]
  split
  · rfl
  · exact h6 hk k hk'
theorem w8_same {l : Array Bool} {i : Nat} (hi : l.getD i true = false) (h : i ≠ 4 ∧ i ≠ 6) (W0 W4 W6 : World) : W8 l W0 W4 W6 = W8 (l.setIfInBounds i true) W0 W4 W6 := by
  unfold W8
  rw [flag_set (flag_no hi).1, flag_set (flag_no hi).1]
  simp only [if_neg (show ¬ 6 = i by omega), if_neg (show ¬ 4 = i by omega)]
theorem four_same {l : Array Bool} {i : Nat} (hi : l.getD i true = false) (hne : i ≠ 4) (h : l.getD 4 false = true → l.getD 0 false = true ∧ l.getD 1 false = true) : (l.setIfInBounds i true).getD 4 false = true → (l.setIfInBounds i true).getD 0 false = true ∧ (l.setIfInBounds i true).getD 1 false = true := fun h4 => by
  rw [flag_set (flag_no hi).1, if_neg (by omega)] at h4
  rw [flag_set (flag_no hi).1, flag_set (flag_no hi).1]
  obtain ⟨a, b⟩ := h h4
  constructor
  · split
    · rfl
    · exact a
  · split
    · rfl
    · exact b
set_option maxRecDepth 100000 in
set_option maxHeartbeats 4000000 in
theorem wp_eight (mb pb : Nat) (s : ByteArray) (n : Int) (v0 : Value) (st : Nat) (a0 : Act) (W W4 W6 : World) (Q : Exit → Act → World → Prop) (hsz : a0.tmps.size = 44) (h5 : a0.tmps[5]? = some (.map (some mb))) (h8 : a0.tmps[8]? = some (.pointer (some ⟨pb, 0, none⟩)))
    (c0 : W.drew.cell? ⟨pb, 0, none⟩ = some (.string s)) (c1 : W.drew.cell? ⟨pb, 1, none⟩ = some (.int .i64 n))
    (hl0 : (Instr.lookup 45 (.map (some mb)) (.agg #[.string s, .int .i64 n]) false).run Tryz.prog W.drew = .ok (.int .i64 0) W.drew)
    (hen : (Instr.mapEntry 45 (.map (some mb)) (.agg #[.string s, .int .i64 n])).run Tryz.prog W.drew = .ok (.tuple #[v0, goInt st]) W4) (hl4 : (Instr.lookup 45 (.map (some mb)) (.agg #[.string s, .int .i64 n]) false).run Tryz.prog W4 = .ok (.int .i64 0) W4)
    (hst : (Instr.entryStore 45 (.map (some mb)) (goInt st) (.int .i64 1)).run Tryz.prog W4 = .ok () W6)
    (hQ : ∀ f : Nat → Value, Q .normal ⟨lay sl8 a0.tmps f, a0.defers⟩ W6) :
    (Code.region 8 #[{ dst := some 37, op := Op.move (Operand.tmp 5), type := 45, pos := "check.go:126", after := #[], guard := none }, { dst := some 38, op := Op.load 47 (Operand.tmp 8), type := 47, pos := "check.go:126", after := #[], guard := none }, { dst := some 39, op := Op.lookup 45 (Operand.tmp 37) (Operand.tmp 38) false, type := 3, pos := "check.go:126", after := #[{ on := 0, ground := Ground.data }, { on := 1, ground := Ground.data }], guard := none }, { dst := some 40, op := Op.binOp BinOp.add 3 (Operand.tmp 39) (Operand.const (Value.int IntKind.i64 1)) 3, type := 3, pos := "check.go:126", after := #[{ on := 2, ground := Ground.data }], guard := none }, { dst := some 41, op := Op.mapEntry 45 (Operand.tmp 37) (Operand.tmp 38), type := 0, pos := "check.go:126", after := #[{ on := 0, ground := Ground.data }, { on := 1, ground := Ground.data }, { on := 0, ground := Ground.phase }, { on := 1, ground := Ground.phase }, { on := 2, ground := Ground.textOnly Departure.mapOpAssignEntry }, { on := 3, ground := Ground.textOnly Departure.mapOpAssignEntry }], guard := none }, { dst := some 42, op := Op.extract (Operand.tmp 41) 1, type := 3, pos := "check.go:126", after := #[{ on := 4, ground := Ground.data }], guard := none }, { dst := none, op := Op.entryStore 45 (Operand.tmp 37) (Operand.tmp 42) (Operand.tmp 40), type := 0, pos := "check.go:126", after := #[{ on := 0, ground := Ground.data }, { on := 5, ground := Ground.data }, { on := 3, ground := Ground.data }, { on := 4, ground := Ground.chain }, { on := 0, ground := Ground.phase }, { on := 1, ground := Ground.phase }, { on := 2, ground := Ground.phase }, { on := 3, ground := Ground.phase }, { on := 4, ground := Ground.phase }, { on := 5, ground := Ground.phase }], guard := none }] true).wp Tryz.prog Q a0 W := by
  refine wp_region_inv (by kernel_rfl) (I8 mb s n v0 st a0 W.drew W4 W6) (rank_of (by kernel_rfl)) ?_ ?_ ?_
  · intro l ac v i o hls hI ho hl haft K hK
    obtain ⟨f, rfl, hpu, hw, h6, h4⟩ := hI
    have e5 : (lay sl8 a0.tmps f)[5]? = some (.map (some mb)) := (lay_off _ _ _ _ rfl).trans h5
    have e8 : (lay sl8 a0.tmps f)[8]? = some (.pointer (some ⟨pb, 0, none⟩)) := (lay_off _ _ _ _ rfl).trans h8
    have es : ∀ k, sl8 k = true → (lay sl8 a0.tmps f)[k]? = some (f k) := fun k hk => lay_slot _ _ _ _ hk (by simp [sl8] at hk; omega)
    have HP := hide hpu
    have H6 := hide h6
    have H4 := hide h4
    have HK := hide hK
    have HF := hide haft
    have HQ := hide hQ
    have HW := hide hw
    have hn6 : i < 6 → l.getD 6 false = false := fun hi => Bool.eq_false_iff.2 fun hq => by have h9 := h6 hq i hi; rw [(flag_no hl).2] at h9; cases h9
    have HN6 := hide hn6
    clear hpu h6 h4 hK haft hQ hw hn6
    rcases i with _|_|_|_|_|_|_|i
    · obtain rfl := Option.some.inj ho
      clear ho
      clear es hl0 hen hl4 hst c0 c1
      go_simp
      exact (unhide HK) _ _ (I8.take (i := 0) hl (by omega) (unhide HP) ((unhide HW).trans (w8_same hl (by omega) _ _ _)) (unhide H6) (four_same hl (by omega) (unhide H4)))
    · obtain rfl := Option.some.inj ho
      clear ho
      have hn4 : l.getD 4 false = false := Bool.eq_false_iff.2 fun hq => by have h9 := ((unhide H4) hq).2; rw [(flag_no hl).2] at h9; cases h9
      have hw0 : v = W.drew := by rw [unhide HW]; unfold W8; rw [(unhide HN6) (by omega), hn4]; rfl
      clear es hl0 hen hl4 hst
      rw [← hw0] at c0 c1
      clear hw0
      go_simp
      exact (unhide HK) _ _ (I8.take (i := 1) hl (by omega) (unhide HP) ((unhide HW).trans (w8_same hl (by omega) _ _ _)) (unhide H6) (four_same hl (by omega) (unhide H4)))
    · obtain rfl := Option.some.inj ho
      clear ho
      have ed : (lay sl8 a0.tmps f)[37]? = some (.map (some mb)) := by rw [es 37 rfl]; exact congrArg some ((unhide HP) 0 rfl ((unhide HF) { on := 0, ground := .data } (by simp) rfl))
      have ee : (lay sl8 a0.tmps f)[38]? = some (.agg #[.string s, .int .i64 n]) := by rw [es 38 rfl]; exact congrArg some ((unhide HP) 1 rfl ((unhide HF) { on := 1, ground := .data } (by simp) rfl))
      have hlk : (Instr.lookup 45 (.map (some mb)) (.agg #[.string s, .int .i64 n]) false).run Tryz.prog v = .ok (.int .i64 0) v := by
        rw [unhide HW]
        unfold W8
        rw [(unhide HN6) (by omega)]
        simp only [Bool.false_eq_true, if_false]
        split
        · exact hl4
        · exact hl0
      clear es hl0 hen hl4 hst c0 c1
      go_simp
      exact (unhide HK) _ _ (I8.take (i := 2) hl (by omega) (unhide HP) ((unhide HW).trans (w8_same hl (by omega) _ _ _)) (unhide H6) (four_same hl (by omega) (unhide H4)))
    · obtain rfl := Option.some.inj ho
      clear ho
      have ed : (lay sl8 a0.tmps f)[39]? = some (.int .i64 0) := by rw [es 39 rfl]; exact congrArg some ((unhide HP) 2 rfl ((unhide HF) { on := 2, ground := .data } (by simp) rfl))
      clear es hl0 hen hl4 hst c0 c1
      go_simp
      exact (unhide HK) _ _ (I8.take (i := 3) hl (by omega) (unhide HP) ((unhide HW).trans (w8_same hl (by omega) _ _ _)) (unhide H6) (four_same hl (by omega) (unhide H4)))
    · obtain rfl := Option.some.inj ho
      clear ho
      have ed : (lay sl8 a0.tmps f)[37]? = some (.map (some mb)) := by rw [es 37 rfl]; exact congrArg some ((unhide HP) 0 rfl ((unhide HF) { on := 0, ground := .data } (by simp) rfl))
      have ee : (lay sl8 a0.tmps f)[38]? = some (.agg #[.string s, .int .i64 n]) := by rw [es 38 rfl]; exact congrArg some ((unhide HP) 1 rfl ((unhide HF) { on := 1, ground := .data } (by simp) rfl))
      have hn4 := (flag_no hl).2
      have hw0 : v = W.drew := by rw [unhide HW]; unfold W8; rw [(unhide HN6) (by omega), hn4]; rfl
      rw [← hw0] at hen
      clear es hl0 hl4 hst c0 c1 hw0
      go_simp
      refine (unhide HK) _ _ (I8.take (i := 4) hl (by omega) (unhide HP) ?_ (unhide H6) fun _ => ?_)
      · have g6 : (l.setIfInBounds 4 true).getD 6 false = false := by rw [flag_set (flag_no hl).1, if_neg (by decide)]; exact (unhide HN6) (by omega)
        have g4 : (l.setIfInBounds 4 true).getD 4 false = true := by rw [flag_set (flag_no hl).1, if_pos rfl]
        unfold W8
        rw [g6, g4]
        rfl
      · rw [flag_set (flag_no hl).1, flag_set (flag_no hl).1, if_neg (by omega), if_neg (by omega)]
        exact ⟨(unhide HF) { on := 0, ground := .data } (by simp) rfl, (unhide HF) { on := 1, ground := .data } (by simp) rfl⟩
    · obtain rfl := Option.some.inj ho
      clear ho
      have ed : (lay sl8 a0.tmps f)[41]? = some (.tuple #[v0, goInt st]) := by rw [es 41 rfl]; exact congrArg some ((unhide HP) 4 rfl ((unhide HF) { on := 4, ground := .data } (by simp) rfl))
      clear es hl0 hen hl4 hst c0 c1
      go_simp
      exact (unhide HK) _ _ (I8.take (i := 5) hl (by omega) (unhide HP) ((unhide HW).trans (w8_same hl (by omega) _ _ _)) (unhide H6) (four_same hl (by omega) (unhide H4)))
    · obtain rfl := Option.some.inj ho
      clear ho
      have ed : (lay sl8 a0.tmps f)[37]? = some (.map (some mb)) := by rw [es 37 rfl]; exact congrArg some ((unhide HP) 0 rfl ((unhide HF) { on := 0, ground := .data } (by simp) rfl))
      have ee : (lay sl8 a0.tmps f)[42]? = some (goInt st) := by rw [es 42 rfl]; exact congrArg some ((unhide HP) 5 rfl ((unhide HF) { on := 5, ground := .data } (by simp) rfl))
      have eg : (lay sl8 a0.tmps f)[40]? = some (.int .i64 1) := by rw [es 40 rfl]; exact congrArg some ((unhide HP) 3 rfl ((unhide HF) { on := 3, ground := .data } (by simp) rfl))
      have hn4 : l.getD 4 false = true := (unhide HF) { on := 4, ground := .phase } (by simp) rfl
      have hw0 : v = W4 := by rw [unhide HW]; unfold W8; rw [(flag_no hl).2, hn4]; rfl
      rw [← hw0] at hst
      simp only [goInt] at hst
      clear es hl0 hl4 hen c0 c1 hw0
      go_simp
      refine (unhide HK) _ _ ⟨f, rfl, (unhide HP).same (flag_no hl).1 rfl, ?_, fun _ k hk => ?_, fun _ => ?_⟩
      · unfold W8
        rw [flag_set (flag_no hl).1, if_pos rfl]
        rfl
      · rw [flag_set (flag_no hl).1, if_neg (by omega)]
        rcases (by omega : k = 0 ∨ k = 1 ∨ k = 2 ∨ k = 3 ∨ k = 4 ∨ k = 5) with rfl | rfl | rfl | rfl | rfl | rfl
        · exact (unhide HF) { on := 0, ground := .phase } (by simp) rfl
        · exact (unhide HF) { on := 1, ground := .phase } (by simp) rfl
        · exact (unhide HF) { on := 2, ground := .phase } (by simp) rfl
        · exact (unhide HF) { on := 3, ground := .phase } (by simp) rfl
        · exact (unhide HF) { on := 4, ground := .phase } (by simp) rfl
        · exact (unhide HF) { on := 5, ground := .phase } (by simp) rfl
      · rw [flag_set (flag_no hl).1, flag_set (flag_no hl).1, if_neg (by omega), if_neg (by omega)]
        exact ⟨(unhide HF) { on := 0, ground := .phase } (by simp) rfl, (unhide HF) { on := 1, ground := .phase } (by simp) rfl⟩
    · cases ho
  · intro l ac v hI hall
    obtain ⟨f, rfl, hpu, hw, h6, h4⟩ := hI
    have g6 := hall 6 (by decide)
    unfold W8 at hw
    rw [g6, if_pos rfl] at hw
    subst hw
    exact hQ f
  · refine ⟨fun k => a0.tmps.getD k undef, by rw [lay_self], Pures.none _ _ _ _ _, ?_, fun h => ?_, fun h => ?_⟩
    · unfold W8
      rw [rep_no, rep_no]
      rfl
    · rw [rep_no] at h; cases h
    · rw [rep_no] at h; cases h
set_option maxRecDepth 100000 in
set_option maxHeartbeats 4000000 in
theorem wp_eight' {mb pb : Nat} {s : ByteArray} {n : Int} {v0 : Value} {st : Nat} {vz v1 v2 v3 v4 v6 v7 v9 v10 v11 v12 v13 v14 v15 v16 v17 v18 v19 v20 v21 v22 v23 v24 v25 v26 v27 v28 v29 v30 v31 v32 v33 v34 v35 v36 v37 v38 v39 v40 v41 v42 v43 : Value} {d : List Deferred} {W W4 W6 : World} {Q : Exit → Act → World → Prop}
    (c0 : W.drew.cell? ⟨pb, 0, none⟩ = some (.string s)) (c1 : W.drew.cell? ⟨pb, 1, none⟩ = some (.int .i64 n))
    (hl0 : (Instr.lookup 45 (.map (some mb)) (.agg #[.string s, .int .i64 n]) false).run Tryz.prog W.drew = .ok (.int .i64 0) W.drew)
    (hen : (Instr.mapEntry 45 (.map (some mb)) (.agg #[.string s, .int .i64 n])).run Tryz.prog W.drew = .ok (.tuple #[v0, goInt st]) W4) (hl4 : (Instr.lookup 45 (.map (some mb)) (.agg #[.string s, .int .i64 n]) false).run Tryz.prog W4 = .ok (.int .i64 0) W4)
    (hst : (Instr.entryStore 45 (.map (some mb)) (goInt st) (.int .i64 1)).run Tryz.prog W4 = .ok () W6)
    (hQ : ∀ (u37 u38 u39 u40 u41 u42 : Value), Q .normal ⟨#[vz, v1, v2, v3, v4, .map (some mb), v6, v7, .pointer (some ⟨pb, 0, none⟩), v9, v10, v11, v12, v13, v14, v15, v16, v17, v18, v19, v20, v21, v22, v23, v24, v25, v26, v27, v28, v29, v30, v31, v32, v33, v34, v35, v36, u37, u38, u39, u40, u41, u42, v43], d⟩ W6) :
    (Code.region 8 #[{ dst := some 37, op := Op.move (Operand.tmp 5), type := 45, pos := "check.go:126", after := #[], guard := none }, { dst := some 38, op := Op.load 47 (Operand.tmp 8), type := 47, pos := "check.go:126", after := #[], guard := none }, { dst := some 39, op := Op.lookup 45 (Operand.tmp 37) (Operand.tmp 38) false, type := 3, pos := "check.go:126", after := #[{ on := 0, ground := Ground.data }, { on := 1, ground := Ground.data }], guard := none }, { dst := some 40, op := Op.binOp BinOp.add 3 (Operand.tmp 39) (Operand.const (Value.int IntKind.i64 1)) 3, type := 3, pos := "check.go:126", after := #[{ on := 2, ground := Ground.data }], guard := none }, { dst := some 41, op := Op.mapEntry 45 (Operand.tmp 37) (Operand.tmp 38), type := 0, pos := "check.go:126", after := #[{ on := 0, ground := Ground.data }, { on := 1, ground := Ground.data }, { on := 0, ground := Ground.phase }, { on := 1, ground := Ground.phase }, { on := 2, ground := Ground.textOnly Departure.mapOpAssignEntry }, { on := 3, ground := Ground.textOnly Departure.mapOpAssignEntry }], guard := none }, { dst := some 42, op := Op.extract (Operand.tmp 41) 1, type := 3, pos := "check.go:126", after := #[{ on := 4, ground := Ground.data }], guard := none }, { dst := none, op := Op.entryStore 45 (Operand.tmp 37) (Operand.tmp 42) (Operand.tmp 40), type := 0, pos := "check.go:126", after := #[{ on := 0, ground := Ground.data }, { on := 5, ground := Ground.data }, { on := 3, ground := Ground.data }, { on := 4, ground := Ground.chain }, { on := 0, ground := Ground.phase }, { on := 1, ground := Ground.phase }, { on := 2, ground := Ground.phase }, { on := 3, ground := Ground.phase }, { on := 4, ground := Ground.phase }, { on := 5, ground := Ground.phase }], guard := none }] true).wp Tryz.prog Q ⟨#[vz, v1, v2, v3, v4, .map (some mb), v6, v7, .pointer (some ⟨pb, 0, none⟩), v9, v10, v11, v12, v13, v14, v15, v16, v17, v18, v19, v20, v21, v22, v23, v24, v25, v26, v27, v28, v29, v30, v31, v32, v33, v34, v35, v36, v37, v38, v39, v40, v41, v42, v43], d⟩ W :=
  wp_eight mb pb s n v0 st _ W W4 W6 Q rfl rfl rfl c0 c1 hl0 hen hl4 hst fun f => hQ (f 37) (f 38) (f 39) (f 40) (f 41) (f 42)
end Go.Proofs.YtcnoipaoljjelaaGreatDoor

