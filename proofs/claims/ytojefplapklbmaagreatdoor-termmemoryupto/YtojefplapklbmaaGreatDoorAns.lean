import Derived.Test.YtojefplapklbmaaGreatDoorIntLay
import Derived.Lib.AppendIntMem
import Derived.Lib.ItoaLen
import Derived.Lib.Slices
import Derived.Lib.BufferKept
import Derived.OwnWalk
import Derived.WalkKit
import Derived.BigCall
import Derived.Test.YtojefplapklbmaaGreatDoorVrs
import Derived.Test.YtojefplapklbmaaGreatDoorC
import Derived.Lib.AppendStr
/- The contract of term.appendNumber: a number's decimals and a blank, behind what is there. -/
namespace Go.Proofs.YtojefplapklbmaaGreatDoor
open Go.RowKit Go.Shelf

theorem Tryz.infoByte : (Tryz.prog.info? 5).map (fun i => (i.zero, i.size, i.bytes)) = some (some (.int .u8 0), 1, 1) := by kernel_rfl
def Tab (B : Nat) (w : World) : Prop := Lib.TabBelow Tryz.prog B w "internal/strconv.uint64pow10" .u64 Lib.pow10Tab
theorem Tab.on {B : Nat} {w w' : World} (h : Tab B w) (hb : Below B w w') : Tab B w' := Lib.TabBelow.on h hb
/-- A row of bytes of the call's own. -/
def Bytes (B : Nat) (w : World) (v : Value) (l : List UInt8) : Prop := w.ownsRow B 5 1 v l.length (Lib.byteCells l)
/-- Blocks of other kinds than bytes are kept. -/
abbrev Others (w w' : World) : Prop := Lib.OthersKept 5 none w w'

theorem others_grow {w w' : World} {B : Nat} {v : Value} {n : Nat} {xs : List Value} (h : w.ownsRow B 5 1 v n xs) (hg : w.grownBy w' v.ownBlock) : Others w w' := fun k o hk _ ho => by
  have hlt := (Array.getElem?_eq_some_iff.1 hk).1
  by_cases e : v.ownBlock = some k
  · rcases h.2 with ⟨rfl, _⟩ | ⟨g, cap, cur, rfl, _, hb, _⟩
    · cases e
    · have : g = k := by simpa [Value.ownBlock] using e
      subst this
      rw [hb] at hk
      simp at hk
      exact (ho _ _ hk.symm).elim
  · exact (hg.block k hlt (fun h' => e h'.symm)).trans hk

set_option maxHeartbeats 1000000 in
set_option maxRecDepth 100000 in
theorem appendNumber_any (B : Nat) (i : Int) (h0 : -9223372036854775808 ≤ i) (h1 : i ≤ 9223372036854775807) (sv : Value) (l : List UInt8) (w : World) (hown : Bytes B w sv l) (hBw : B ≤ w.heap.size) (hlim : l.length ≤ 70368744177664) (htab : Tab B w) :
    Calls Tryz.prog 92 #[sv, .int .i64 i] w fun e w' => ∃ v', e = .returned v' ∧ Bytes B w' v' (l ++ (Lib.itoa i ++ [32])) ∧ Below B w w' ∧ Others w w' := by
  obtain ⟨i0, hi, hz0, hz1, hz2⟩ := info_parts Tryz.infoByte
  have la := Lib.itoa_length_le i h0 h1
  have hai := Any.strconv_AppendInt_10 appInt B l.length i h0 h1 sv (Lib.byteCells l) w hown hBw (by omega) htab
  have hai' : Calls Tryz.prog 104 #[sv, .int .i64 i, .int .i64 10] w fun e w' => ∃ v', e = .returned v' ∧ w'.ownsRow B 5 1 v' (l.length + (Lib.itoa i).length) (Lib.byteCells l ++ Lib.byteCells (Lib.itoa i)) ∧ Below B w w' ∧ Others w w' := hai
  clear hai hown htab
  go_enter Tryz.func92, Tryz.ntmps92
  go_wp2_with fail
  refine hai'.mono ?_
  clear hai'
  rintro e w1 ⟨v1, rfl, hown1, hnx1, hot1⟩
  have hw1 := hnx1.size
  go_wp2_with (at_builtin; go_must (refine wpList_append_own _ rfl _ _ 94 rfl B 5 i0 (.int .u8 0) 1 1 Tryz.underlying94 hi hz0 hz1 hz2 rfl (by decide) _ _ _ rfl (hown1.alloc _) ⟨w1.heap.size, 0, none⟩ 1 1 [Value.int .u8 32] rfl rfl (by intro j u' hj; match j, hj with | 0, hj => simp at hj; subst hj; simp [Addr.add]) (by intro u' hu'; simp at hu'; subst hu'; rfl) (by unfold maxLen; omega) (by omega) (by simp; omega) ?_; intro v2 w2 hown2 hgrow hnil2))
  have hot2 : Others w w2 := (hot1.alloc _).trans (others_grow (hown1.alloc _) hgrow)
  have hnx2 : Below B w w2 := (hnx1.alloc (by omega) _).grown hgrow (by simp; omega) (fun k hk => (hown1.lt k hk).1)
  have hfin : Bytes B w2 v2 (l ++ (Lib.itoa i ++ [32])) := by
    unfold Bytes
    have e1 : (l ++ (Lib.itoa i ++ [32])).length = l.length + (Lib.itoa i).length + 1 := by simp; omega
    have e2 : Lib.byteCells (l ++ (Lib.itoa i ++ [32])) = Lib.byteCells l ++ Lib.byteCells (Lib.itoa i) ++ [Value.int .u8 32] := by simp [Lib.byteCells]
    rw [e1, e2]
    exact hown2
  have HF := hide (And.intro hfin (And.intro hnx2 hot2))
  clear hfin hnx2 hot2 hown2 hgrow hnil2 hown1
  go_wp2_with fail
  exact bodyPost_ret (v := v2) (by simp [results, Tryz.results92, go_sem]) rfl ⟨v2, rfl, unhide HF⟩
end Go.Proofs.YtojefplapklbmaaGreatDoor

/- The contract of term.parts, where all parts of the term are of a kind. -/
namespace Go.Proofs.YtojefplapklbmaaGreatDoor
open Go.RowKit Go.Shelf

/-- The parts of a term that all are of a kind, handed over as such. -/
theorem parts_stopsP (Pt : TV → Prop) (n : Nat) (Bt n₀ n₁ : Nat) {d : Nat} (t : Tm d) (w : World)
    (hPt : ∀ x ∈ parts t, Pt x) (hc : BoxT w Bt t.tv) (hT : IsT n₀ w t) (hn₀ : n₀ ≤ w.heap.size) (hn₁ : n₁ ≤ w.heap.size) :
    SeqC 22 Fence.wide n Tryz.prog 73 #[.pointer (some ⟨Bt, 0, none⟩)] (fun x : { x : TV // Pt x } => #[TV.val x.1]) (Kp n₀ n₁) (fun ys => ys.map Subtype.val = parts t) (fun pre => pre.map Subtype.val <+: parts t) (parts t).length w := fun l J Jx W hW hJ hJx hY h0 => by
  have h := parts1_in n l Bt n₀ n₁ _ t (fun ys W => ∃ zs : List { x : TV // Pt x }, zs.map Subtype.val = ys ∧ J zs W) (fun ys W => ∃ zs : List { x : TV // Pt x }, zs.map Subtype.val = ys ∧ Jx zs W) (fun s A B row hs hg hr => by obtain ⟨zs, e, hz⟩ := hs; exact ⟨zs, e, hJ zs A B row hz hg hr⟩)
    (fun pre x W hx hj hl => by
      obtain ⟨zs, rfl, hz⟩ := hj
      refine (hY zs ⟨x, hPt x hx⟩ W hz (by simpa using hl)).mono fun e W' h => ?_
      rcases h with ⟨h1, h2, h3⟩ | ⟨h1, h2⟩
      · exact .inl ⟨h1, ⟨zs ++ [⟨x, hPt x hx⟩], by simp, h2⟩, h3⟩
      · exact .inr ⟨h1, ⟨zs ++ [⟨x, hPt x hx⟩], by simp, h2⟩⟩)
    W ((hW.block Bt hc.lt).trans hc) (hT.below (hW.mono hn₀)) (Nat.le_trans hn₀ hW.size) (Nat.le_trans hn₁ hW.size) (Nat.le_refl _) ⟨[], rfl, h0⟩
  refine h.mono fun e W' h => ?_
  obtain ⟨h1, h2⟩ := h
  refine ⟨h1, ?_⟩
  rcases h2 with ⟨ys, rfl, zs, e, hz⟩ | ⟨pre, hp, zs, e, hz⟩
  · exact .inl ⟨zs, e, hz⟩
  · exact .inr ⟨zs, by show zs.map Subtype.val <+: parts t; rw [e]; exact hp, hz⟩
end Go.Proofs.YtojefplapklbmaaGreatDoor

/- The contract of term.appendKey: a term's parts, written behind what is there. -/
namespace Go.Proofs.YtojefplapklbmaaGreatDoor
open Go.RowKit Go.Shelf
attribute [local go_sem] Oper.semAt_some

/-- A part that can be written: its numbers are int64, its Name is short. -/
def Pw (x : TV) : Prop := (-9223372036854775808 ≤ x.k ∧ x.k ≤ 9223372036854775807) ∧ (-9223372036854775808 ≤ x.N ∧ x.N ≤ 9223372036854775807) ∧ x.s.size ≤ 100 ∧ x.len ≤ 50
theorem pw_len {x : TV} (h : Pw x) : (encN x.nd).length ≤ 200 := by
  obtain ⟨h1, h2, h3, h4⟩ := h
  have a1 := Lib.itoa_length_le x.k h1.1 h1.2
  have a2 := Lib.itoa_length_le x.N h2.1 h2.2
  have a3 := Lib.itoa_length_le (x.len : Int) (by omega) (by omega)
  have a4 := Lib.itoa_length_le (x.s.toList.length : Int) (by omega) (by rw [bytes_len]; omega)
  have a5 := bytes_len x.s
  simp only [encN, TV.nd, List.length_append, List.length_cons]
  omega
theorem enc_len : ∀ (l : List TV), (∀ x ∈ l, Pw x) → (enc (l.map TV.nd)).length ≤ 200 * l.length
  | [], _ => by simp [enc]
  | x :: l, h => by
    have h1 := pw_len (h x (by simp))
    have h2 := enc_len l (fun y hy => h y (by simp [hy]))
    simp only [enc, List.map_cons, List.flatMap_cons, List.length_append, List.length_cons] at h2 ⊢
    omega
/-- What lies under way: the key's box, its row, all else as it was. -/
structure KeyI (B : Nat) (w : World) (kb : Nat) (l : List UInt8) (W : World) : Prop where
  key : ∃ v, Boxed W kb 94 v ∧ Bytes B W v l
  below : Below B w W
  others : Others w W
theorem bytes_kept {B : Nat} {W W' : World} {v : Value} {l : List UInt8} (h : Bytes B W v l) (hk : ∀ g, v.ownBlock = some g → W'.heap[g]? = W.heap[g]?) : Bytes B W' v l := by
  unfold Bytes World.ownsRow at *
  refine ⟨h.1, ?_⟩
  rcases h.2 with h2 | ⟨g, cap, cur, hv, hg, hb, h3⟩
  · exact .inl h2
  · exact .inr ⟨g, cap, cur, hv, hg, (hk g (by rw [hv]; rfl)).trans hb, h3⟩
theorem bytes_cells {B : Nat} {W : World} {v : Value} {l : List UInt8} (h : Bytes B W v l) : ∀ g, v.ownBlock = some g → B ≤ g ∧ ∃ cur, W.heap[g]? = some (.cells cur 5 (0, 0)) := fun g hg => by
  rcases h.2 with ⟨rfl, _⟩ | ⟨g', cap, cur, rfl, h1, hb, _⟩
  · cases hg
  · have : g' = g := by simpa [Value.ownBlock] using hg
    subst this
    exact ⟨h1, cur, hb⟩
theorem keyI_owC {β : Type} {B : Nat} {w : World} {kb Bz : Nat} (hB : B ≤ w.heap.size) (hz : w.heap.size ≤ Bz) (f : β → List UInt8) : OwC 22 Bz (fun s W => KeyI B w kb (f s) W) := fun s X Y row hs hg hr => by
  obtain ⟨v, hb, hv⟩ := hs.key
  refine ⟨⟨v, owC_boxed 22 Bz kb 94 (fun (_ : Unit) => v) rfl () X Y row hb hg hr, bytes_kept hv fun g hg' => ?_⟩, ?_, ?_⟩
  · obtain ⟨_, cur, hc⟩ := bytes_cells hv g hg'
    refine hg.block g (Array.getElem?_eq_some_iff.1 hc).1 fun e => ?_
    obtain ⟨o, ho, hoc⟩ := (hr g e.symm).2
    rw [hc] at ho
    cases ho
    rcases hoc with hoc | hoc
    · cases hoc
    · simp [ofK] at hoc
  · exact hs.below.grown hg (Nat.le_trans hB hs.below.size) (fun k e => Nat.le_trans (Nat.le_trans hB hz) (hr k e).1)
  · intro k o hk hn ho
    have h1 := hs.others k o hk hn ho
    have hlt := (Array.getElem?_eq_some_iff.1 hk).1
    refine (hg.block k (Array.getElem?_eq_some_iff.1 h1).1 fun e => ?_).trans h1
    have := (hr k e.symm).1
    omega
/-- What one more write keeps. -/
theorem write_keeps {B : Nat} {W W' : World} (hb : Below B W W') (ho : Others W W') (hs : W.heap.size ≤ W'.heap.size) (n₁ : Nat) : Kp B n₁ W W' ∧ KeepsOthers W W' := by
  refine ⟨⟨hs, fun i o hi h hc => ?_⟩, ⟨hs, fun k o hk hc => ho k o hk (by simp) (fun c fz e => by subst e; cases hc)⟩⟩
  rcases hi with hi | ⟨_, ht⟩
  · exact (hb.block i hi).trans h
  · exact ho i o h (by simp) (fun c fz e => by subst e; simp [tmCells] at ht)
theorem box_kept {W W' : World} {kb : Nat} {T : TypeId} {v : Value} (h : Boxed W kb T v) (hT : T ≠ 5) (ho : Others W W') : Boxed W' kb T v := ho kb _ h (by simp) (fun c fz e => by cases e; exact hT rfl)
theorem boxT_kept {W W' : World} {B : Nat} {x : TV} (h : BoxT W B x) (ho : Others W W') : BoxT W' B x := ho B _ h (by simp) (fun c fz e => by cases e)
theorem others_set {W : World} {a : Addr} {v : Value} {W0 : World} (h : Others W0 W) (hlt : W0.heap.size ≤ a.block) : Others W0 (W.setCell a v) := fun k o hk hn ho => by
  have h1 := h k o hk hn ho
  have := (Array.getElem?_eq_some_iff.1 hk).1
  rw [Below.heap_setCell _ _ _ _ (by omega)]
  exact h1

theorem bytes_slice {B : Nat} {W : World} {v : Value} {l : List UInt8} (h : Bytes B W v l) : ∃ a len cap, v = .slice a len cap := by
  rcases h.2 with ⟨rfl, _⟩ | ⟨g', cap, cur, rfl, _⟩
  · exact ⟨_, _, _, rfl⟩
  · exact ⟨_, _, _, rfl⟩
theorem KeyI.alloc {B : Nat} {w : World} {kb : Nat} {l : List UInt8} {W : World} (h : KeyI B w kb l W) (hB : B ≤ w.heap.size) (o : Obj) : KeyI B w kb l (W.alloc o) := by
  obtain ⟨v, hb, hv⟩ := h.key
  exact ⟨⟨v, hb.alloc _, World.ownsRow.alloc hv _⟩, h.below.alloc (Nat.le_trans hB h.below.size) _, Lib.OthersKept.alloc h.others _⟩

/-- A string's bytes behind a row of bytes, inside a fence. -/
theorem append_str_in {F : Fence} {m : Nat} {w : World} {ops : Array Oper} {rest : List Oper} {o : Oper} {a : Act} {Q : Exit → Act → World → Prop} (hgd : o.guard = none) (sl x : Operand)
    (ho : o.op = .call { callee := .builtin .append, args := #[sl, x], argTypes := #[94, 9] }) {B : Nat} {v : Value} {l : List UInt8} {s : ByteArray} (hs : a.eval sl = v) (hx : a.eval x = .string s) (hown : Bytes B w v l) (hb : l.length + s.size ≤ 140737488350000) (hB : B ≤ w.heap.size)
    (h : ∀ v' w', Bytes B w' v' (l ++ s.toList) → Below B w w' → Others w w' → wpListIn F m Tryz.prog ops Q rest (a.put o.dst v') w') : wpListIn F m Tryz.prog ops Q (o :: rest) a w := by
  obtain ⟨i0, hi, hz0, hz1, hz2⟩ := info_parts Tryz.infoByte
  obtain ⟨v', w', hr, h2, h3, _⟩ := Lib.run_append_own_string (P := Tryz.prog) w B 94 9 o.type 5 i0 Tryz.underlying94 Tryz.underlying9 hi hz0 hz1 hz2 v _ _ hown s (by unfold maxLen; omega) (by omega) hB
  have hby : Bytes B w' v' (l ++ s.toList) := by
    unfold Bytes
    have e1 : (l ++ s.toList).length = l.length + s.size := by rw [List.length_append, bytes_len]
    have e2 : Lib.byteCells (l ++ s.toList) = Lib.byteCells l ++ Lib.strCells s := by rw [Lib.strCells_eq, ByteArray.toList_eq]; simp [Lib.byteCells]
    rw [e1, e2]
    exact h2
  have hbl : Below B w w' := (Below.refl B w).grown h3 hB (fun k hk => (hown.lt k hk).1)
  refine wpListIn_plain hgd fun K hK => ?_
  unfold Oper.wpIn
  refine ⟨by simp [Oper.about, ho, resolve, Target.leads, Sem.run_pure], ?_⟩
  rw [Oper.semAt_plain F _ _ (by rw [ho]; intro c hc'; cases hc')]
  simp [execOp, ho, resolve, invoke, builtin, hs, hx, hr, Result.andThen]
  exact hK _ _ (h v' w' hby hbl (others_grow hown h3))
/-- A round under way: the key so far, the part's box, what must be kept. -/
structure Rs (B : Nat) (w : World) (n₁ : Nat) (Ws : World) (Bx : Nat) (x : TV) (L : List UInt8) (W : World) : Prop where
  ki : KeyI B w w.heap.size L W
  bx : BoxT W Bx x
  kp : Kp B n₁ Ws W
  ko : KeepsOthers Ws W
theorem Rs.step {B : Nat} {w : World} {n₁ : Nat} {Ws : World} {Bx : Nat} {x : TV} {L : List UInt8} {W W1 : World} {v' : Value} {m : List UInt8} (h : Rs B w n₁ Ws Bx x L W) (hB : B ≤ w.heap.size) (hn : w.heap.size < n₁) (hBx : w.heap.size < Bx) (hv : Bytes B W1 v' (L ++ m)) (hb : Below B W W1) (ho : Others W W1) :
    Rs B w n₁ Ws Bx x (L ++ m) (W1.setCell ⟨w.heap.size, 0, none⟩ v') ∧ (∃ u, Boxed W1 w.heap.size 94 u) ∧ Boxed (W1.setCell ⟨w.heap.size, 0, none⟩ v') w.heap.size 94 v' ∧ Bytes B (W1.setCell ⟨w.heap.size, 0, none⟩ v') v' (L ++ m) := by
  obtain ⟨u0, hbox, _⟩ := h.ki.key
  have hbox1 : Boxed W1 w.heap.size 94 u0 := box_kept hbox (by decide) ho
  have hbox2 : Boxed (W1.setCell ⟨w.heap.size, 0, none⟩ v') w.heap.size 94 v' := hbox1.set v'
  obtain ⟨hk, hko⟩ := write_keeps hb ho hb.size n₁
  have hby : Bytes B (W1.setCell ⟨w.heap.size, 0, none⟩ v') v' (L ++ m) := bytes_kept hv fun g hg => by
    obtain ⟨_, cur, hc⟩ := bytes_cells hv g hg
    refine Below.heap_setCell _ _ _ _ fun e => ?_
    have e' : g = w.heap.size := e
    rw [e', show W1.heap[w.heap.size]? = _ from hbox1] at hc
    cases hc
  refine ⟨⟨⟨⟨v', hbox2, hby⟩, ?_, ?_⟩, ?_, ?_, ?_⟩, ⟨u0, hbox1⟩, hbox2, hby⟩
  · exact (h.ki.below.trans hb).setCell (p := ⟨w.heap.size, 0, none⟩) hB _
  · exact others_set (Lib.OthersKept.trans h.ki.others ho) (Nat.le_refl _)
  · have h1 := boxT_kept h.bx ho
    unfold BoxT at *
    rw [Below.heap_setCell _ _ _ _ (by simp; omega)]
    exact h1
  · refine (h.kp.trans hk).trans ⟨by simp, fun i o hi ha hc => ?_⟩
    rw [Below.heap_setCell _ _ _ _ (by simp; rcases hi with hi | hi <;> omega)]
    exact ha
  · exact (h.ko.trans hko).trans (KeepsOthers.setCell _ _ _)

set_option maxRecDepth 100000 in
set_option maxHeartbeats 4000000 in
theorem appendKey_in (n : Nat) (hn : 3 ≤ n) {d : Nat} (t : Tm d) (B : Nat) (sv : Value) (l : List UInt8) (w : World) (hT : IsT B w t) (hP : ∀ x ∈ parts t, Pw x) (hB : B ≤ w.heap.size) (hown : Bytes B w sv l) (hlim : l.length + 200 * (parts t).length ≤ 70368744177000) (htab : Tab B w) :
    CallsIn Fence.wide n Tryz.prog 65 #[sv, t.tv.val] w fun e W' => ∃ v', e = .returned v' ∧ Bytes B W' v' (l ++ enc (code t)) ∧ Below B w W' ∧ Others w W' := by
  have h1 : 1 ≤ n := by omega
  obtain ⟨sa, sl, sc, rfl⟩ := bytes_slice hown
  generalize hx0 : t.tv = x0
  have Hx0 := hide hx0
  clear hx0
  refine callsIn_of_wp_marks Tryz.func65 rfl trivial ?_ rfl
  simp only [TV.val, Tryz.ntmps65, List.size_toArray, List.length_cons, List.length_nil, Nat.reduceAdd, Nat.reduceSub, Array.replicate_succ, Array.replicate_zero, List.push_toArray, List.append_toArray, List.nil_append, List.cons_append]
  gi_wp2_with (refine ⟨trivial, ?_⟩; gi_at_call 32; refine (parts_in Fence.wide (n - 1) trivial rfl x0 _).mono ?_; rintro e w' ⟨rfl, rfl⟩)
  have bK := ((Boxed.new w 94 (.slice sa sl sc)).alloc (.cells #[.int .i64 x0.k, .int .i64 x0.N, .string x0.s, .slice x0.a x0.len x0.cap] 24)).alloc (.cells #[.int .i64 x0.k, .int .i64 x0.N, .string x0.s, .slice x0.a x0.len x0.cap] 24)
  have bT := BoxT.new ((w.alloc (.cells #[.slice sa sl sc] 94)).alloc (.cells #[.int .i64 x0.k, .int .i64 x0.N, .string x0.s, .slice x0.a x0.len x0.cap] 24)) x0
  simp only [World.size_alloc] at bK bT
  have hBw : Below w.heap.size w (((w.alloc (.cells #[.slice sa sl sc] 94)).alloc (.cells #[.int .i64 x0.k, .int .i64 x0.N, .string x0.s, .slice x0.a x0.len x0.cap] 24)).alloc (.cells #[.int .i64 x0.k, .int .i64 x0.N, .string x0.s, .slice x0.a x0.len x0.cap] 24)) := (((Below.refl _ w).alloc (Nat.le_refl _) _).alloc (by simp) _).alloc (by simp; omega) _
  have hI0 : KeyI B w w.heap.size (l ++ enc (([] : List TV).map TV.nd)) (((w.alloc (.cells #[.slice sa sl sc] 94)).alloc (.cells #[.int .i64 x0.k, .int .i64 x0.N, .string x0.s, .slice x0.a x0.len x0.cap] 24)).alloc (.cells #[.int .i64 x0.k, .int .i64 x0.N, .string x0.s, .slice x0.a x0.len x0.cap] 24)) := by
    refine ⟨⟨_, bK, ?_⟩, hBw.mono hB, (((Lib.OthersKept.refl _ _ w).alloc _).alloc _).alloc _⟩
    simp only [List.map_nil, enc, List.flatMap_nil, List.append_nil]
    exact ((World.ownsRow.alloc hown _).alloc _).alloc _
  have hsz : (((w.alloc (.cells #[.slice sa sl sc] 94)).alloc (.cells #[.int .i64 x0.k, .int .i64 x0.N, .string x0.s, .slice x0.a x0.len x0.cap] 24)).alloc (.cells #[.int .i64 x0.k, .int .i64 x0.N, .string x0.s, .slice x0.a x0.len x0.cap] 24)).heap.size = w.heap.size + 3 := by simp
  obtain ⟨W0, hW0⟩ : ∃ W0, ((w.alloc (.cells #[.slice sa sl sc] 94)).alloc (.cells #[.int .i64 x0.k, .int .i64 x0.N, .string x0.s, .slice x0.a x0.len x0.cap] 24)).alloc (.cells #[.int .i64 x0.k, .int .i64 x0.N, .string x0.s, .slice x0.a x0.len x0.cap] 24) = W0 := ⟨_, rfl⟩
  rw [hW0] at bK bT hBw hsz hI0 ⊢
  clear hW0 bK
  refine rangeC (k := 22) rfl h1 (gf := 73) (lb := #[.pointer (some ⟨w.heap.size + 1 + 1, 0, none⟩)]) rfl trivial (enters_of Tryz.func73 (by kernel_rfl) rfl)
    (parts_stopsP Pw (n - 1) (w.heap.size + 1 + 1) B W0.heap.size t W0 hP (by rw [unhide Hx0]; exact bT) (hT.below (hBw.mono hB)) (by omega) (Nat.le_refl _)) Kp.trans (Kp.putObj (w := W0)) (Below.refl _ _) (fun _ => rfl)
    (fun pre W => KeyI B w w.heap.size (l ++ enc ((pre.map Subtype.val).map TV.nd)) W ∧ (pre.length ≤ (parts t).length ∧ w.heap.size + 3 ≤ W.heap.size))
    (fun _ _ _ => False)
    (OwC.and (keyI_owC hB (by omega) (fun pre : List { x : TV // Pw x } => l ++ enc ((pre.map Subtype.val).map TV.nd))) (OwC.and (owC_pure _ _ _) (fun _ X Y row hs hg _ => Nat.le_trans hs hg.size)))
    (fun c s A B row hs hg hr => hs)
    ⟨hI0, Nat.zero_le _, by omega⟩
    (fun x a' W => ∃ Bx, w.heap.size + 1 < Bx ∧ BoxT W Bx x.1 ∧ a' = { tmps := #[.slice sa sl sc, .agg #[.int .i64 x0.k, .int .i64 x0.N, .string x0.s, .slice x0.a x0.len x0.cap], .pointer (some ⟨w.heap.size, 0, none⟩), .pointer (some ⟨w.heap.size + 1, 0, none⟩), .slice none 0 0, .pointer (some ⟨Bx, 0, none⟩), .agg #[.int .i64 x0.k, .int .i64 x0.N, .string x0.s, .slice x0.a x0.len x0.cap], .func (.func 73) #[] #[.pointer (some ⟨w.heap.size + 1 + 1, 0, none⟩)], x.1.val, undef, undef, undef, undef, undef, undef, undef, undef, undef, undef, undef, undef, undef, undef, undef, undef, undef, undef, undef, undef, undef, undef, undef], defers := [] })
    (fun x a' _ X Y row hs hg hr => by obtain ⟨Bx, h1, h2, h3⟩ := hs; exact ⟨Bx, h1, boxT_owC _ Bx (fun (_ : Unit) => x.1) () X Y row h2 hg hr, h3⟩)
    ?assign ?body ?done ?stop
  case assign =>
    rintro l' pre x W K ⟨hI, hl, hw3⟩ hK
    simp only [TV.val]
    gi_wp2
    exact hK _ _ ((KeepsOthers.alloc _ _).from _) ((Kp.refl _ _ W).alloc _) ⟨hI.alloc hB _, hl, by simp; omega⟩ ⟨W.heap.size, by omega, BoxT.new W x.1, rfl⟩
  case body =>
    rintro l' pre x a' W hl' ⟨r, hr⟩ ⟨hI, hpl, hw3⟩ ⟨Bx, hBx, bX, rfl⟩ hlt
    have c0 := bX.c0
    have c1 := bX.c1
    have c2 := bX.c2
    have c3 := bX.c3
    have hPx := x.2
    obtain ⟨⟨pk0, pk1⟩, ⟨pN0, pN1⟩, ps, pl⟩ := hPx
    have hlen : (l ++ enc ((pre.map Subtype.val).map TV.nd)).length ≤ l.length + 200 * pre.length := by
      rw [List.length_append]
      have := enc_len (pre.map Subtype.val) (fun y hy => by obtain ⟨z, _, rfl⟩ := List.mem_map.1 hy; exact z.2)
      rw [List.length_map] at this
      omega
    have hlen2 : (l ++ enc ((pre.map Subtype.val).map TV.nd)).length ≤ 70368744177000 := by omega
    obtain ⟨L, hL⟩ : ∃ L, l ++ enc ((pre.map Subtype.val).map TV.nd) = L := ⟨_, rfl⟩
    have hnxt : l ++ enc (((pre ++ [x]).map Subtype.val).map TV.nd) = L ++ encN x.1.nd := by rw [← hL]; simp [enc]
    rw [hL] at hI hlen2
    have a1 := Lib.itoa_length_le x.1.k pk0 pk1
    have a2 := Lib.itoa_length_le x.1.N pN0 pN1
    have a3 := Lib.itoa_length_le (x.1.len : Int) (by omega) (by omega)
    have a4 := Lib.itoa_length_le (x.1.s.size : Int) (by omega) (by omega)
    have HNX := hide hnxt
    have HL := hide hL
    clear hnxt hL hlen
    have hR0 : Rs B w W0.heap.size W Bx x.1 L W := ⟨hI, bX, Kp.refl _ _ _, KeepsOthers.refl _⟩
    clear hI bX
    have hwB : w.heap.size < Bx := by omega
    have hn1 : w.heap.size < W0.heap.size := by omega
    obtain ⟨v0, hb0, hv0⟩ := hR0.ki.key
    obtain ⟨va0, vl0, vc0, rfl⟩ := bytes_slice hv0
    have cK := hb0.cell
    have fK := hb0.frozen
    gi_wp2
    clear cK fK c0 c1 c2 c3
    refine ⟨trivial, (fun h => by cases h), (CallsIn.inRound l' (callsIn_wide.2 (appendNumber_any B x.1.k pk0 pk1 _ _ W hv0 (Nat.le_trans hB hR0.ki.below.size) (by first | omega | (simp only [List.length_append, List.length_cons, List.length_nil]; omega)) (htab.on hR0.ki.below)))).mono ?_⟩
    rintro e W1 ⟨u0, rfl, hu0, hbl0, hot0⟩
    obtain ⟨ua0, ul0, uc0, rfl⟩ := bytes_slice hu0
    obtain ⟨hR1, ⟨w0, hbo0⟩, hbp0, hv1⟩ := hR0.step hB hn1 hwB hu0 hbl0 hot0
    have k0 := hbo0.cell
    have k1 := hbo0.frozen
    have c0 := hR1.bx.c0
    have c1 := hR1.bx.c1
    have c2 := hR1.bx.c2
    have c3 := hR1.bx.c3
    have cK := hbp0.cell
    have fK := hbp0.frozen
    clear hv0 hu0 hbl0 hot0 hb0 hR0 hbo0 hbp0
    gi_wp2
    clear k0 k1 c0 c1 c2 c3 cK fK
    refine ⟨trivial, (fun h => by cases h), (CallsIn.inRound l' (callsIn_wide.2 (appendNumber_any B x.1.N pN0 pN1 _ _ _ hv1 (Nat.le_trans hB hR1.ki.below.size) (by first | omega | (simp only [List.length_append, List.length_cons, List.length_nil]; omega)) (htab.on hR1.ki.below)))).mono ?_⟩
    rintro e W2 ⟨u1, rfl, hu1, hbl1, hot1⟩
    obtain ⟨ua1, ul1, uc1, rfl⟩ := bytes_slice hu1
    obtain ⟨hR2, ⟨w1, hbo1⟩, hbp1, hv2⟩ := hR1.step hB hn1 hwB hu1 hbl1 hot1
    have k0 := hbo1.cell
    have k1 := hbo1.frozen
    have c0 := hR2.bx.c0
    have c1 := hR2.bx.c1
    have c2 := hR2.bx.c2
    have c3 := hR2.bx.c3
    have cK := hbp1.cell
    have fK := hbp1.frozen
    clear hv1 hu1 hbl1 hot1 hR1 hbo1 hbp1
    gi_wp2
    clear k0 k1 c0 c1 c2 c3 cK fK
    refine ⟨trivial, (fun h => by cases h), (CallsIn.inRound l' (callsIn_wide.2 (appendNumber_any B (x.1.len : Int) (by omega) (by omega) _ _ _ hv2 (Nat.le_trans hB hR2.ki.below.size) (by first | omega | (simp only [List.length_append, List.length_cons, List.length_nil]; omega)) (htab.on hR2.ki.below)))).mono ?_⟩
    rintro e W3 ⟨u2, rfl, hu2, hbl2, hot2⟩
    obtain ⟨ua2, ul2, uc2, rfl⟩ := bytes_slice hu2
    obtain ⟨hR3, ⟨w2, hbo2⟩, hbp2, hv3⟩ := hR2.step hB hn1 hwB hu2 hbl2 hot2
    have k0 := hbo2.cell
    have k1 := hbo2.frozen
    have c0 := hR3.bx.c0
    have c1 := hR3.bx.c1
    have c2 := hR3.bx.c2
    have c3 := hR3.bx.c3
    have cK := hbp2.cell
    have fK := hbp2.frozen
    clear hv2 hu2 hbl2 hot2 hR2 hbo2 hbp2
    gi_wp2
    clear k0 k1 c0 c1 c2 c3 cK fK
    refine ⟨trivial, (fun h => by cases h), (CallsIn.inRound l' (callsIn_wide.2 (appendNumber_any B (x.1.s.size : Int) (by omega) (by omega) _ _ _ hv3 (Nat.le_trans hB hR3.ki.below.size) (by first | omega | (simp only [List.length_append, List.length_cons, List.length_nil]; omega)) (htab.on hR3.ki.below)))).mono ?_⟩
    rintro e W4 ⟨u3, rfl, hu3, hbl3, hot3⟩
    obtain ⟨ua3, ul3, uc3, rfl⟩ := bytes_slice hu3
    obtain ⟨hR4, ⟨w3, hbo3⟩, hbp3, hv4⟩ := hR3.step hB hn1 hwB hu3 hbl3 hot3
    have k0 := hbo3.cell
    have k1 := hbo3.frozen
    have c0 := hR4.bx.c0
    have c1 := hR4.bx.c1
    have c2 := hR4.bx.c2
    have c3 := hR4.bx.c3
    have cK := hbp3.cell
    have fK := hbp3.frozen
    clear hv3 hu3 hbl3 hot3 hR3 hbo3 hbp3
    gi_wp2_with (gi_at_builtin; go_must (refine append_str_in rfl _ _ rfl rfl rfl hv4 (by simp only [List.length_append, List.length_cons, List.length_nil]; omega) (Nat.le_trans hB hR4.ki.below.size) ?_; intro v5 W5 hv5 hb5 ho5; obtain ⟨va5, vl5, vc5, rfl⟩ := bytes_slice hv5; obtain ⟨hR5, ⟨w4, hbo4⟩, hbp4, hv6⟩ := hR4.step hB hn1 hwB hv5 hb5 ho5; have k2 := hbo4.cell; have k3 := hbo4.frozen))
    have hki := hR5.ki
    have hend : L ++ (Lib.itoa x.1.k ++ [32]) ++ (Lib.itoa x.1.N ++ [32]) ++ (Lib.itoa (x.1.len : Int) ++ [32]) ++ (Lib.itoa (x.1.s.size : Int) ++ [32]) ++ x.1.s.toList = l ++ enc (((pre ++ [x]).map Subtype.val).map TV.nd) := by
      rw [unhide HNX]
      simp [encN, TV.nd, bytes_len]
    rw [hend] at hki
    exact ⟨hR5.ko.from _, hR5.kp, hki, by rw [List.length_append]; simp; omega, Nat.le_trans hw3 hR5.kp.size⟩
  case done =>
    rintro D ys W hD hys ⟨hI, _, _⟩ hK
    obtain ⟨v, hb, hv⟩ := hI.key
    obtain ⟨va, vl, vc, rfl⟩ := bytes_slice hv
    have cR := hb.cell
    have fR := hb.frozen
    gi_wp2
    refine ⟨by simp, .inl ⟨_, _, rfl, run_takeDeferred hK, ?_⟩⟩
    have hfin := OwC.put (keyI_owC (β := Unit) (kb := w.heap.size) hB (show w.heap.size ≤ w.heap.size by omega) (fun _ => l ++ enc ((ys.map Subtype.val).map TV.nd))) (s := ()) hI hK (by omega) rfl (.deferred none)
    have hby : Bytes B (W.putObj D (.deferred none)) (.slice va vl vc) (l ++ enc ((ys.map Subtype.val).map TV.nd)) := bytes_kept hv fun g hg => by
      obtain ⟨_, cur, hc⟩ := bytes_cells hv g hg
      refine World.putObj_heap_other fun e => ?_
      rw [e, hK] at hc
      cases hc
    rw [hys] at hby
    exact ⟨.slice va vl vc, by simp [results, Tryz.f65, go_sem], _, rfl, hby, hfin.below, hfin.others⟩
  case stop => rintro D c pre W hD hpre h; exact h.elim

theorem appendKey_any {d : Nat} (t : Tm d) (B : Nat) (sv : Value) (l : List UInt8) (w : World) (hT : IsT B w t) (hP : ∀ x ∈ parts t, Pw x) (hB : B ≤ w.heap.size) (hown : Bytes B w sv l) (hlim : l.length + 200 * (parts t).length ≤ 70368744177000) (htab : Tab B w) :
    Calls Tryz.prog 65 #[sv, t.tv.val] w fun e W' => ∃ v', e = .returned v' ∧ Bytes B W' v' (l ++ enc (code t)) ∧ Below B w W' ∧ Others w W' :=
  callsIn_wide.1 (appendKey_in 3 (Nat.le_refl _) t B sv l w hT hP hB hown hlim htab)
end Go.Proofs.YtojefplapklbmaaGreatDoor

