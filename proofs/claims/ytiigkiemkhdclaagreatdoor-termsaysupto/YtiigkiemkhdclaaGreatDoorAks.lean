import Derived.Test.YtiigkiemkhdclaaGreatDoorKys
import Derived.Lib.AppendStr
import Derived.Test.YtiigkiemkhdclaaGreatDoorPs
import Derived.Test.YtiigkiemkhdclaaGreatDoorXs
import Derived.Test.YtiigkiemkhdclaaGreatDoorMps
/- The contract of term.appendKey: a term's parts, written behind what is there. -/
namespace Go.Proofs.YtiigkiemkhdclaaGreatDoor
open Go.RowKit Go.Shelf
attribute [local go_sem] Oper.semAt_some

/-- A part that can be written: its numbers are int64, its Name is short. -/
def Pw (x : TV) : Prop := (-9223372036854775808 ≤ x.k ∧ x.k ≤ 9223372036854775807) ∧ (-9223372036854775808 ≤ x.N ∧ x.N ≤ 9223372036854775807) ∧ x.s.size ≤ 100 ∧ x.len ≤ 50
theorem pw_len {x : TV} (h : Pw x) : (encN x.nd).length ≤ 200 := by
  obtain ⟨h1, h2, h3, h4⟩ := h
  have a1 := Lib.itoa_length_le x.k h1.1 h1.2
  have a2 := Lib.itoa_length_le x.N h2.1 h2.2
  have a3 := Lib.itoa_length_le (x.len : Int) (by omega) (by omega)
  have a4 := Lib.itoa_length_le (x.s.toList.length : Int) (by omega) (by rw [bytes_len]; omega)
  have a5 := bytes_len x.s
  simp only [encN, TV.nd, List.length_append, List.length_cons]
  omega
theorem enc_len : ∀ (l : List TV), (∀ x ∈ l, Pw x) → (enc (l.map TV.nd)).length ≤ 200 * l.length
  | [], _ => by simp [enc]
  | x :: l, h => by
    have h1 := pw_len (h x (by simp))
    have h2 := enc_len l (fun y hy => h y (by simp [hy]))
    simp only [enc, List.map_cons, List.flatMap_cons, List.length_append, List.length_cons] at h2 ⊢
    omega
/-- What lies under way: the key's box, its row, all else as it was. -/
structure KeyI (B : Nat) (w : World) (kb : Nat) (l : List UInt8) (W : World) : Prop where
  key : ∃ v, Boxed W kb 94 v ∧ Bytes B W v l
  below : Below B w W
  others : Others w W
theorem bytes_kept {B : Nat} {W W' : World} {v : Value} {l : List UInt8} (h : Bytes B W v l) (hk : ∀ g, v.ownBlock = some g → W'.heap[g]? = W.heap[g]?) : Bytes B W' v l := by
  unfold Bytes World.ownsRow at *
  refine ⟨h.1, ?_⟩
  rcases h.2 with h2 | ⟨g, cap, cur, hv, hg, hb, h3⟩
  · exact .inl h2
  · exact .inr ⟨g, cap, cur, hv, hg, (hk g (by rw [hv]; rfl)).trans hb, h3⟩
theorem bytes_cells {B : Nat} {W : World} {v : Value} {l : List UInt8} (h : Bytes B W v l) : ∀ g, v.ownBlock = some g → B ≤ g ∧ ∃ cur, W.heap[g]? = some (.cells cur 5 (0, 0)) := fun g hg => by
  rcases h.2 with ⟨rfl, _⟩ | ⟨g', cap, cur, rfl, h1, hb, _⟩
  · cases hg
  · have : g' = g := by simpa [Value.ownBlock] using hg
    subst this
    exact ⟨h1, cur, hb⟩
theorem keyI_own {β : Type} {B : Nat} {w : World} {kb Bz : Nat} (hB : B ≤ w.heap.size) (hz : w.heap.size ≤ Bz) (f : β → List UInt8) : OwnFrom Bz (fun s W => KeyI B w kb (f s) W) := fun s X Y row hs hg hr => by
  obtain ⟨v, hb, hv⟩ := hs.key
  refine ⟨⟨v, boxed_own kb 94 (fun (_ : Unit) => v) () X Y row hb hg (fun r e => (hr r e).2), bytes_kept hv fun g hg' => ?_⟩, ?_, ?_⟩
  · obtain ⟨_, cur, hc⟩ := bytes_cells hv g hg'
    refine hg.block g (Array.getElem?_eq_some_iff.1 hc).1 fun e => ?_
    obtain ⟨o, ho, hoc⟩ := (hr g e.symm).2
    rw [hc] at ho
    cases ho
    cases hoc
  · exact hs.below.grown hg (Nat.le_trans hB hs.below.size) (fun k e => Nat.le_trans (Nat.le_trans hB hz) (hr k e).1)
  · intro k o hk hn ho
    have h1 := hs.others k o hk hn ho
    have hlt := (Array.getElem?_eq_some_iff.1 hk).1
    refine (hg.block k (Array.getElem?_eq_some_iff.1 h1).1 fun e => ?_).trans h1
    have := (hr k e.symm).1
    omega
/-- What one more write keeps. -/
theorem write_keeps {B : Nat} {W W' : World} (hb : Below B W W') (ho : Others W W') (hs : W.heap.size ≤ W'.heap.size) (n₁ : Nat) : Kp B n₁ W W' ∧ KeepsOthers W W' := by
  refine ⟨⟨hs, fun i o hi h hc => ?_⟩, ⟨hs, fun k o hk hc => ho k o hk (by simp) (fun c fz e => by subst e; cases hc)⟩⟩
  rcases hi with hi | ⟨_, ht⟩
  · exact (hb.block i hi).trans h
  · exact ho i o h (by simp) (fun c fz e => by subst e; simp [tmCells] at ht)
theorem box_kept {W W' : World} {kb : Nat} {T : TypeId} {v : Value} (h : Boxed W kb T v) (hT : T ≠ 5) (ho : Others W W') : Boxed W' kb T v := ho kb _ h (by simp) (fun c fz e => by cases e; exact hT rfl)
theorem boxT_kept {W W' : World} {B : Nat} {x : TV} (h : BoxT W B x) (ho : Others W W') : BoxT W' B x := ho B _ h (by simp) (fun c fz e => by cases e)
theorem others_set {W : World} {a : Addr} {v : Value} {W0 : World} (h : Others W0 W) (hlt : W0.heap.size ≤ a.block) : Others W0 (W.setCell a v) := fun k o hk hn ho => by
  have h1 := h k o hk hn ho
  have := (Array.getElem?_eq_some_iff.1 hk).1
  rw [Below.heap_setCell _ _ _ _ (by omega)]
  exact h1

theorem bytes_slice {B : Nat} {W : World} {v : Value} {l : List UInt8} (h : Bytes B W v l) : ∃ a len cap, v = .slice a len cap := by
  rcases h.2 with ⟨rfl, _⟩ | ⟨g', cap, cur, rfl, _⟩
  · exact ⟨_, _, _, rfl⟩
  · exact ⟨_, _, _, rfl⟩
theorem KeyI.alloc {B : Nat} {w : World} {kb : Nat} {l : List UInt8} {W : World} (h : KeyI B w kb l W) (hB : B ≤ w.heap.size) (o : Obj) : KeyI B w kb l (W.alloc o) := by
  obtain ⟨v, hb, hv⟩ := h.key
  exact ⟨⟨v, hb.alloc _, World.ownsRow.alloc hv _⟩, h.below.alloc (Nat.le_trans hB h.below.size) _, Lib.OthersKept.alloc h.others _⟩

/-- A string's bytes behind a row of bytes, inside a fence. -/
theorem append_str_in {F : Fence} {m : Nat} {w : World} {ops : Array Oper} {rest : List Oper} {o : Oper} {a : Act} {Q : Exit → Act → World → Prop} (hgd : o.guard = none) (sl x : Operand)
    (ho : o.op = .call { callee := .builtin .append, args := #[sl, x], argTypes := #[94, 9] }) {B : Nat} {v : Value} {l : List UInt8} {s : ByteArray} (hs : a.eval sl = v) (hx : a.eval x = .string s) (hown : Bytes B w v l) (hb : l.length + s.size ≤ 140737488350000) (hB : B ≤ w.heap.size)
    (h : ∀ v' w', Bytes B w' v' (l ++ s.toList) → Below B w w' → Others w w' → wpListIn F m Tryz.prog ops Q rest (a.put o.dst v') w') : wpListIn F m Tryz.prog ops Q (o :: rest) a w := by
  obtain ⟨i0, hi, hz0, hz1, hz2⟩ := info_parts Tryz.infoByte
  obtain ⟨v', w', hr, h2, h3, _⟩ := Lib.run_append_own_string (P := Tryz.prog) w B 94 9 o.type 5 i0 Tryz.underlying94 Tryz.underlying9 hi hz0 hz1 hz2 v _ _ hown s (by unfold maxLen; omega) (by omega) hB
  have hby : Bytes B w' v' (l ++ s.toList) := by
    unfold Bytes
    have e1 : (l ++ s.toList).length = l.length + s.size := by rw [List.length_append, bytes_len]
    have e2 : Lib.byteCells (l ++ s.toList) = Lib.byteCells l ++ Lib.strCells s := by rw [Lib.strCells_eq, ByteArray.toList_eq]; simp [Lib.byteCells]
    rw [e1, e2]
    exact h2
  have hbl : Below B w w' := (Below.refl B w).grown h3 hB (fun k hk => (hown.lt k hk).1)
  refine wpListIn_plain hgd fun K hK => ?_
  unfold Oper.wpIn
  refine ⟨by simp [Oper.about, ho, resolve, Target.leads, Sem.run_pure], ?_⟩
  rw [Oper.semAt_plain F _ _ (by rw [ho]; intro c hc'; cases hc')]
  simp [execOp, ho, resolve, invoke, builtin, hs, hx, hr, Result.andThen]
  exact hK _ _ (h v' w' hby hbl (others_grow hown h3))
/-- A round under way: the key so far, the part's box, what must be kept. -/
structure Rs (B : Nat) (w : World) (n₁ : Nat) (Ws : World) (Bx : Nat) (x : TV) (L : List UInt8) (W : World) : Prop where
  ki : KeyI B w w.heap.size L W
  bx : BoxT W Bx x
  kp : Kp B n₁ Ws W
  ko : KeepsOthers Ws W
theorem Rs.step {B : Nat} {w : World} {n₁ : Nat} {Ws : World} {Bx : Nat} {x : TV} {L : List UInt8} {W W1 : World} {v' : Value} {m : List UInt8} (h : Rs B w n₁ Ws Bx x L W) (hB : B ≤ w.heap.size) (hn : w.heap.size < n₁) (hBx : w.heap.size < Bx) (hv : Bytes B W1 v' (L ++ m)) (hb : Below B W W1) (ho : Others W W1) :
    Rs B w n₁ Ws Bx x (L ++ m) (W1.setCell ⟨w.heap.size, 0, none⟩ v') ∧ (∃ u, Boxed W1 w.heap.size 94 u) ∧ Boxed (W1.setCell ⟨w.heap.size, 0, none⟩ v') w.heap.size 94 v' ∧ Bytes B (W1.setCell ⟨w.heap.size, 0, none⟩ v') v' (L ++ m) := by
  obtain ⟨u0, hbox, _⟩ := h.ki.key
  have hbox1 : Boxed W1 w.heap.size 94 u0 := box_kept hbox (by decide) ho
  have hbox2 : Boxed (W1.setCell ⟨w.heap.size, 0, none⟩ v') w.heap.size 94 v' := hbox1.set v'
  obtain ⟨hk, hko⟩ := write_keeps hb ho hb.size n₁
  have hby : Bytes B (W1.setCell ⟨w.heap.size, 0, none⟩ v') v' (L ++ m) := bytes_kept hv fun g hg => by
    obtain ⟨_, cur, hc⟩ := bytes_cells hv g hg
    refine Below.heap_setCell _ _ _ _ fun e => ?_
    have e' : g = w.heap.size := e
    rw [e', show W1.heap[w.heap.size]? = _ from hbox1] at hc
    cases hc
  refine ⟨⟨⟨⟨v', hbox2, hby⟩, ?_, ?_⟩, ?_, ?_, ?_⟩, ⟨u0, hbox1⟩, hbox2, hby⟩
  · exact (h.ki.below.trans hb).setCell (p := ⟨w.heap.size, 0, none⟩) hB _
  · exact others_set (Lib.OthersKept.trans h.ki.others ho) (Nat.le_refl _)
  · have h1 := boxT_kept h.bx ho
    unfold BoxT at *
    rw [Below.heap_setCell _ _ _ _ (by simp; omega)]
    exact h1
  · refine (h.kp.trans hk).trans ⟨by simp, fun i o hi ha hc => ?_⟩
    rw [Below.heap_setCell _ _ _ _ (by simp; rcases hi with hi | hi <;> omega)]
    exact ha
  · exact (h.ko.trans hko).trans (KeepsOthers.setCell _ _ _)

set_option maxRecDepth 100000 in
set_option maxHeartbeats 4000000 in
theorem appendKey_in (n : Nat) (hn : 3 ≤ n) {d : Nat} (t : Tm d) (B : Nat) (sv : Value) (l : List UInt8) (w : World) (hT : IsT B w t) (hP : ∀ x ∈ parts t, Pw x) (hB : B ≤ w.heap.size) (hown : Bytes B w sv l) (hlim : l.length + 200 * (parts t).length ≤ 70368744177000) (htab : Tab B w) :
    CallsIn Fence.wide n Tryz.prog 65 #[sv, t.tv.val] w fun e W' => ∃ v', e = .returned v' ∧ Bytes B W' v' (l ++ enc (code t)) ∧ Below B w W' ∧ Others w W' := by
  have h1 : 1 ≤ n := by omega
  obtain ⟨sa, sl, sc, rfl⟩ := bytes_slice hown
  generalize hx0 : t.tv = x0
  have Hx0 := hide hx0
  clear hx0
  refine callsIn_of_wp_marks Tryz.func65 rfl trivial ?_ rfl
  simp only [TV.val, Tryz.ntmps65, List.size_toArray, List.length_cons, List.length_nil, Nat.reduceAdd, Nat.reduceSub, Array.replicate_succ, Array.replicate_zero, List.push_toArray, List.append_toArray, List.nil_append, List.cons_append]
  gi_wp2_with (refine ⟨trivial, ?_⟩; gi_at_call 32; refine (parts_in Fence.wide (n - 1) trivial rfl x0 _).mono ?_; rintro e w' ⟨rfl, rfl⟩)
  have bK := ((Boxed.new w 94 (.slice sa sl sc)).alloc (.cells #[.int .i64 x0.k, .int .i64 x0.N, .string x0.s, .slice x0.a x0.len x0.cap] 24)).alloc (.cells #[.int .i64 x0.k, .int .i64 x0.N, .string x0.s, .slice x0.a x0.len x0.cap] 24)
  have bT := BoxT.new ((w.alloc (.cells #[.slice sa sl sc] 94)).alloc (.cells #[.int .i64 x0.k, .int .i64 x0.N, .string x0.s, .slice x0.a x0.len x0.cap] 24)) x0
  simp only [World.size_alloc] at bK bT
  have hBw : Below w.heap.size w (((w.alloc (.cells #[.slice sa sl sc] 94)).alloc (.cells #[.int .i64 x0.k, .int .i64 x0.N, .string x0.s, .slice x0.a x0.len x0.cap] 24)).alloc (.cells #[.int .i64 x0.k, .int .i64 x0.N, .string x0.s, .slice x0.a x0.len x0.cap] 24)) := (((Below.refl _ w).alloc (Nat.le_refl _) _).alloc (by simp) _).alloc (by simp; omega) _
  have hI0 : KeyI B w w.heap.size (l ++ enc (([] : List TV).map TV.nd)) (((w.alloc (.cells #[.slice sa sl sc] 94)).alloc (.cells #[.int .i64 x0.k, .int .i64 x0.N, .string x0.s, .slice x0.a x0.len x0.cap] 24)).alloc (.cells #[.int .i64 x0.k, .int .i64 x0.N, .string x0.s, .slice x0.a x0.len x0.cap] 24)) := by
    refine ⟨⟨_, bK, ?_⟩, hBw.mono hB, (((Lib.OthersKept.refl _ _ w).alloc _).alloc _).alloc _⟩
    simp only [List.map_nil, enc, List.flatMap_nil, List.append_nil]
    exact ((World.ownsRow.alloc hown _).alloc _).alloc _
  have hsz : (((w.alloc (.cells #[.slice sa sl sc] 94)).alloc (.cells #[.int .i64 x0.k, .int .i64 x0.N, .string x0.s, .slice x0.a x0.len x0.cap] 24)).alloc (.cells #[.int .i64 x0.k, .int .i64 x0.N, .string x0.s, .slice x0.a x0.len x0.cap] 24)).heap.size = w.heap.size + 3 := by simp
  obtain ⟨W0, hW0⟩ : ∃ W0, ((w.alloc (.cells #[.slice sa sl sc] 94)).alloc (.cells #[.int .i64 x0.k, .int .i64 x0.N, .string x0.s, .slice x0.a x0.len x0.cap] 24)).alloc (.cells #[.int .i64 x0.k, .int .i64 x0.N, .string x0.s, .slice x0.a x0.len x0.cap] 24) = W0 := ⟨_, rfl⟩
  rw [hW0] at bK bT hBw hsz hI0 ⊢
  clear hW0 bK
  refine wpIn_rangeFunc_ownH rfl h1 (gf := 73) (lb := #[.pointer (some ⟨w.heap.size + 1 + 1, 0, none⟩)]) rfl trivial (enters_of Tryz.func73 (by kernel_rfl) rfl)
    (parts_stopsP Pw Fence.wide rfl (n - 1) trivial trivial rfl (w.heap.size + 1 + 1) B W0.heap.size t W0 hP (by rw [unhide Hx0]; exact bT) (hT.below (hBw.mono hB)) (by omega) (Nat.le_refl _)) Kp.trans (Kp.putObj (w := W0)) (Below.refl _ _) (fun _ => rfl)
    (fun pre W => KeyI B w w.heap.size (l ++ enc ((pre.map Subtype.val).map TV.nd)) W ∧ (pre.length ≤ (parts t).length ∧ w.heap.size + 3 ≤ W.heap.size))
    (fun _ _ _ => False)
    (OwnFrom.and (keyI_own hB (by omega) (fun pre : List { x : TV // Pw x } => l ++ enc ((pre.map Subtype.val).map TV.nd))) (OwnFrom.and (ownFrom_pure _ _) (fun _ X Y row hs hg _ => Nat.le_trans hs hg.size)))
    (fun c s A B row hs hg hr => hs)
    ⟨hI0, Nat.zero_le _, by omega⟩
    (fun x a' W => ∃ Bx, w.heap.size + 1 < Bx ∧ BoxT W Bx x.1 ∧ a' = { tmps := #[.slice sa sl sc, .agg #[.int .i64 x0.k, .int .i64 x0.N, .string x0.s, .slice x0.a x0.len x0.cap], .pointer (some ⟨w.heap.size, 0, none⟩), .pointer (some ⟨w.heap.size + 1, 0, none⟩), .slice none 0 0, .pointer (some ⟨Bx, 0, none⟩), .agg #[.int .i64 x0.k, .int .i64 x0.N, .string x0.s, .slice x0.a x0.len x0.cap], .func (.func 73) #[] #[.pointer (some ⟨w.heap.size + 1 + 1, 0, none⟩)], x.1.val, undef, undef, undef, undef, undef, undef, undef, undef, undef, undef, undef, undef, undef, undef, undef, undef, undef, undef, undef, undef, undef, undef, undef], defers := [] })
    (fun x a' _ X Y row hs hg hr => by obtain ⟨Bx, h1, h2, h3⟩ := hs; exact ⟨Bx, h1, boxT_own Bx (fun (_ : Unit) => x.1) () X Y row h2 hg (fun r e => (hr r e).2), h3⟩)
    ?assign ?body ?done ?stop
  case assign =>
    rintro l' pre x W K ⟨hI, hl, hw3⟩ hK
    simp only [TV.val]
    gi_wp2
    exact hK _ _ ((KeepsOthers.alloc _ _).from _) ((Kp.refl _ _ W).alloc _) ⟨hI.alloc hB _, hl, by simp; omega⟩ ⟨W.heap.size, by omega, BoxT.new W x.1, rfl⟩
  case body =>
    rintro l' pre x a' W hl' ⟨r, hr⟩ ⟨hI, hpl, hw3⟩ ⟨Bx, hBx, bX, rfl⟩ hlt
    have c0 := bX.c0
    have c1 := bX.c1
    have c2 := bX.c2
    have c3 := bX.c3
    have hPx := x.2
    obtain ⟨⟨pk0, pk1⟩, ⟨pN0, pN1⟩, ps, pl⟩ := hPx
    have hlen : (l ++ enc ((pre.map Subtype.val).map TV.nd)).length ≤ l.length + 200 * pre.length := by
      rw [List.length_append]
      have := enc_len (pre.map Subtype.val) (fun y hy => by obtain ⟨z, _, rfl⟩ := List.mem_map.1 hy; exact z.2)
      rw [List.length_map] at this
      omega
    have hlen2 : (l ++ enc ((pre.map Subtype.val).map TV.nd)).length ≤ 70368744177000 := by omega
    obtain ⟨L, hL⟩ : ∃ L, l ++ enc ((pre.map Subtype.val).map TV.nd) = L := ⟨_, rfl⟩
    have hnxt : l ++ enc (((pre ++ [x]).map Subtype.val).map TV.nd) = L ++ encN x.1.nd := by rw [← hL]; simp [enc]
    rw [hL] at hI hlen2
    have a1 := Lib.itoa_length_le x.1.k pk0 pk1
    have a2 := Lib.itoa_length_le x.1.N pN0 pN1
    have a3 := Lib.itoa_length_le (x.1.len : Int) (by omega) (by omega)
    have a4 := Lib.itoa_length_le (x.1.s.size : Int) (by omega) (by omega)
    have HNX := hide hnxt
    have HL := hide hL
    clear hnxt hL hlen
    have hR0 : Rs B w W0.heap.size W Bx x.1 L W := ⟨hI, bX, Kp.refl _ _ _, KeepsOthers.refl _⟩
    clear hI bX
    have hwB : w.heap.size < Bx := by omega
    have hn1 : w.heap.size < W0.heap.size := by omega
    obtain ⟨v0, hb0, hv0⟩ := hR0.ki.key
    obtain ⟨va0, vl0, vc0, rfl⟩ := bytes_slice hv0
    have cK := hb0.cell
    have fK := hb0.frozen
    gi_wp2
    clear cK fK c0 c1 c2 c3
    refine ⟨trivial, (fun h => by cases h), (CallsIn.inRound l' (callsIn_wide.2 (appendNumber_any B x.1.k pk0 pk1 _ _ W hv0 (Nat.le_trans hB hR0.ki.below.size) (by first | omega | (simp only [List.length_append, List.length_cons, List.length_nil]; omega)) (htab.on hR0.ki.below)))).mono ?_⟩
    rintro e W1 ⟨u0, rfl, hu0, hbl0, hot0⟩
    obtain ⟨ua0, ul0, uc0, rfl⟩ := bytes_slice hu0
    obtain ⟨hR1, ⟨w0, hbo0⟩, hbp0, hv1⟩ := hR0.step hB hn1 hwB hu0 hbl0 hot0
    have k0 := hbo0.cell
    have k1 := hbo0.frozen
    have c0 := hR1.bx.c0
    have c1 := hR1.bx.c1
    have c2 := hR1.bx.c2
    have c3 := hR1.bx.c3
    have cK := hbp0.cell
    have fK := hbp0.frozen
    clear hv0 hu0 hbl0 hot0 hb0 hR0 hbo0 hbp0
    gi_wp2
    clear k0 k1 c0 c1 c2 c3 cK fK
    refine ⟨trivial, (fun h => by cases h), (CallsIn.inRound l' (callsIn_wide.2 (appendNumber_any B x.1.N pN0 pN1 _ _ _ hv1 (Nat.le_trans hB hR1.ki.below.size) (by first | omega | (simp only [List.length_append, List.length_cons, List.length_nil]; omega)) (htab.on hR1.ki.below)))).mono ?_⟩
    rintro e W2 ⟨u1, rfl, hu1, hbl1, hot1⟩
    obtain ⟨ua1, ul1, uc1, rfl⟩ := bytes_slice hu1
    obtain ⟨hR2, ⟨w1, hbo1⟩, hbp1, hv2⟩ := hR1.step hB hn1 hwB hu1 hbl1 hot1
    have k0 := hbo1.cell
    have k1 := hbo1.frozen
    have c0 := hR2.bx.c0
    have c1 := hR2.bx.c1
    have c2 := hR2.bx.c2
    have c3 := hR2.bx.c3
    have cK := hbp1.cell
    have fK := hbp1.frozen
    clear hv1 hu1 hbl1 hot1 hR1 hbo1 hbp1
    gi_wp2
    clear k0 k1 c0 c1 c2 c3 cK fK
    refine ⟨trivial, (fun h => by cases h), (CallsIn.inRound l' (callsIn_wide.2 (appendNumber_any B (x.1.len : Int) (by omega) (by omega) _ _ _ hv2 (Nat.le_trans hB hR2.ki.below.size) (by first | omega | (simp only [List.length_append, List.length_cons, List.length_nil]; omega)) (htab.on hR2.ki.below)))).mono ?_⟩
    rintro e W3 ⟨u2, rfl, hu2, hbl2, hot2⟩
    obtain ⟨ua2, ul2, uc2, rfl⟩ := bytes_slice hu2
    obtain ⟨hR3, ⟨w2, hbo2⟩, hbp2, hv3⟩ := hR2.step hB hn1 hwB hu2 hbl2 hot2
    have k0 := hbo2.cell
    have k1 := hbo2.frozen
    have c0 := hR3.bx.c0
    have c1 := hR3.bx.c1
    have c2 := hR3.bx.c2
    have c3 := hR3.bx.c3
    have cK := hbp2.cell
    have fK := hbp2.frozen
    clear hv2 hu2 hbl2 hot2 hR2 hbo2 hbp2
    gi_wp2
    clear k0 k1 c0 c1 c2 c3 cK fK
    refine ⟨trivial, (fun h => by cases h), (CallsIn.inRound l' (callsIn_wide.2 (appendNumber_any B (x.1.s.size : Int) (by omega) (by omega) _ _ _ hv3 (Nat.le_trans hB hR3.ki.below.size) (by first | omega | (simp only [List.length_append, List.length_cons, List.length_nil]; omega)) (htab.on hR3.ki.below)))).mono ?_⟩
    rintro e W4 ⟨u3, rfl, hu3, hbl3, hot3⟩
    obtain ⟨ua3, ul3, uc3, rfl⟩ := bytes_slice hu3
    obtain ⟨hR4, ⟨w3, hbo3⟩, hbp3, hv4⟩ := hR3.step hB hn1 hwB hu3 hbl3 hot3
    have k0 := hbo3.cell
    have k1 := hbo3.frozen
    have c0 := hR4.bx.c0
    have c1 := hR4.bx.c1
    have c2 := hR4.bx.c2
    have c3 := hR4.bx.c3
    have cK := hbp3.cell
    have fK := hbp3.frozen
    clear hv3 hu3 hbl3 hot3 hR3 hbo3 hbp3
    gi_wp2_with (gi_at_builtin; go_must (refine append_str_in rfl _ _ rfl rfl rfl hv4 (by simp only [List.length_append, List.length_cons, List.length_nil]; omega) (Nat.le_trans hB hR4.ki.below.size) ?_; intro v5 W5 hv5 hb5 ho5; obtain ⟨va5, vl5, vc5, rfl⟩ := bytes_slice hv5; obtain ⟨hR5, ⟨w4, hbo4⟩, hbp4, hv6⟩ := hR4.step hB hn1 hwB hv5 hb5 ho5; have k2 := hbo4.cell; have k3 := hbo4.frozen))
    have hki := hR5.ki
    have hend : L ++ (Lib.itoa x.1.k ++ [32]) ++ (Lib.itoa x.1.N ++ [32]) ++ (Lib.itoa (x.1.len : Int) ++ [32]) ++ (Lib.itoa (x.1.s.size : Int) ++ [32]) ++ x.1.s.toList = l ++ enc (((pre ++ [x]).map Subtype.val).map TV.nd) := by
      rw [unhide HNX]
      simp [encN, TV.nd, bytes_len]
    rw [hend] at hki
    exact ⟨hR5.ko.from _, hR5.kp, hki, by rw [List.length_append]; simp; omega, Nat.le_trans hw3 hR5.kp.size⟩
  case done =>
    rintro D ys W hD hys ⟨hI, _, _⟩ hK
    obtain ⟨v, hb, hv⟩ := hI.key
    obtain ⟨va, vl, vc, rfl⟩ := bytes_slice hv
    have cR := hb.cell
    have fR := hb.frozen
    gi_wp2
    refine ⟨by simp, .inl ⟨_, _, rfl, run_takeDeferred hK, ?_⟩⟩
    have hfin := OwnFrom.putObj (keyI_own (β := Unit) (kb := w.heap.size) hB (show w.heap.size ≤ w.heap.size by omega) (fun _ => l ++ enc ((ys.map Subtype.val).map TV.nd))) (s := ()) (.deferred none) hI (by omega) hK rfl
    have hby : Bytes B (W.putObj D (.deferred none)) (.slice va vl vc) (l ++ enc ((ys.map Subtype.val).map TV.nd)) := bytes_kept hv fun g hg => by
      obtain ⟨_, cur, hc⟩ := bytes_cells hv g hg
      refine World.putObj_heap_other fun e => ?_
      rw [e, hK] at hc
      cases hc
    rw [hys] at hby
    exact ⟨.slice va vl vc, by simp [results, Tryz.f65, go_sem], _, rfl, hby, hfin.below, hfin.others⟩
  case stop => rintro D c pre W hD hpre h; exact h.elim

theorem appendKey_any {d : Nat} (t : Tm d) (B : Nat) (sv : Value) (l : List UInt8) (w : World) (hT : IsT B w t) (hP : ∀ x ∈ parts t, Pw x) (hB : B ≤ w.heap.size) (hown : Bytes B w sv l) (hlim : l.length + 200 * (parts t).length ≤ 70368744177000) (htab : Tab B w) :
    Calls Tryz.prog 65 #[sv, t.tv.val] w fun e W' => ∃ v', e = .returned v' ∧ Bytes B W' v' (l ++ enc (code t)) ∧ Below B w W' ∧ Others w W' :=
  callsIn_wide.1 (appendKey_in 3 (Nat.le_refl _) t B sv l w hT hP hB hown hlim htab)
end Go.Proofs.YtiigkiemkhdclaaGreatDoor

/- What is read of a term's numbers: they are of 64 bits. A term that is formed has parts of a kind that can be written. -/
namespace Go.Proofs.YtiigkiemkhdclaaGreatDoor
open Go.RowKit Go.Joins Go.WideShapes

def Nw (x : TV) : Prop := -9223372036854775808 ≤ x.N ∧ x.N ≤ 9223372036854775807
theorem okNd_le {k N : Int} {s : List UInt8} {len : Nat} (h : okNd (k, N, s, len) = true) : (1 ≤ k ∧ k ≤ 4) ∧ s.length ≤ 100 ∧ len ≤ 50 := by
  simp only [okNd] at h
  by_cases h1 : k = 1
  · rw [if_pos h1] at h
    simp at h
    obtain ⟨⟨_, h2⟩, h3⟩ := h
    subst h2
    simp
    omega
  · rw [if_neg h1] at h
    by_cases h2 : k = 2
    · rw [if_pos h2] at h
      simp at h
      obtain ⟨h2, h3⟩ := h
      subst h2
      simp
      omega
    · rw [if_neg h2] at h
      by_cases h3 : k = 3
      · rw [if_pos h3] at h
        simp at h
        omega
      · rw [if_neg h3] at h
        by_cases h4 : k = 4
        · rw [if_pos h4] at h
          simp at h
          omega
        · rw [if_neg h4] at h
          cases h
theorem pw_of {n : Nat} {t : Tm n} (ok : okT t = true) (h : ∀ x ∈ parts t, Nw x) : ∀ x ∈ parts t, Pw x := fun x hx => by
  rw [okT_code] at ok
  have h1 : x.nd ∈ code t := List.mem_map.2 ⟨x, hx, rfl⟩
  have h2 := List.all_eq_true.1 ok _ h1
  obtain ⟨h4, h5, h6⟩ := okNd_le (show okNd (x.k, x.N, x.s.toList, x.len) = true from h2)
  rw [bytes_len] at h5
  exact ⟨⟨by omega, by omega⟩, h x hx, h5, h6⟩
theorem nums_kids {m : Nat} {x : TV} {kids : List (Tm m)} (h0 : Nw x) (h : ∀ u ∈ kids, ∀ y ∈ parts u, Nw y) : ∀ y ∈ parts (n := m + 1) ((x, kids) : TV × List (Tm m)), Nw y := fun y hy => by
  have hy' : y ∈ x :: kids.flatMap parts := hy
  rcases List.mem_cons.1 hy' with e | e
  · rw [e]; exact h0
  · obtain ⟨u, hu, e⟩ := List.mem_flatMap.1 e
    exact h u hu y e
theorem nw_wf {k N : Int} {s : ByteArray} {a : Option Addr} {l c : Nat} (h : (Lit.int .i64 N).wf = true) : Nw ⟨k, N, s, a, l, c⟩ := by
  simp only [Lit.wf, Bool.and_eq_true, decide_eq_true_eq] at h
  exact h

/-- The cells of a term that can be read, and how many parts it has. -/
theorem open_nums {H : Type} {enc : TypeId × Value → H} {w : World} {spare : Nat → Bool} {held : Bool} : ∀ (k fuel : Nat), fuel ≤ k → ∀ (m : Nat), fuel ≤ m → ∀ (cs : List Value) (y : DataW H × List MemPlace),
    DataW.trod enc Tryz.prog w 0 spare held fuel 24 cs = some y → ∃ t : Tm m, cs = [.int .i64 t.tv.k, .int .i64 t.tv.N, .string t.tv.s, .slice t.tv.a t.tv.len t.tv.cap] ∧ IsT w.heap.size w t ∧ (code t).length ≤ Rows.uptoBulk y.1 ∧ ∀ x ∈ parts t, Nw x := by
  intro k
  induction k with
  | zero =>
    intro fuel hf m _ cs y h
    obtain rfl : fuel = 0 := by omega
    simp [DataW.trod] at h
  | succ k ih =>
    intro fuel hf m hm cs y h
    obtain ⟨xs, n, rfl, rfl, hl, hxl, hfs⟩ := DataW.trod_struct Tryz.underlying24 h
    rw [Tryz.cells28] at hl
    have hx4 : xs.length = 4 := hxl
    clear hxl
    obtain ⟨v0, v1, v2, v3, rfl⟩ := list4 hl
    have f0 : DataW.trod enc Tryz.prog w 0 spare held n 3 (List.take (Tryz.prog.cellsOf 3) (List.drop 0 [v0, v1, v2, v3])) = xs[0]? := hfs 0 _ rfl
    have f1 : DataW.trod enc Tryz.prog w 0 spare held n 2 (List.take (Tryz.prog.cellsOf 2) (List.drop 1 [v0, v1, v2, v3])) = xs[1]? := hfs 1 _ rfl
    have f2 : DataW.trod enc Tryz.prog w 0 spare held n 9 (List.take (Tryz.prog.cellsOf 9) (List.drop 2 [v0, v1, v2, v3])) = xs[2]? := hfs 2 _ rfl
    have f3 : DataW.trod enc Tryz.prog w 0 spare held n 22 (List.take (Tryz.prog.cellsOf 22) (List.drop 3 [v0, v1, v2, v3])) = xs[3]? := hfs 3 _ rfl
    rw [Tryz.cells3] at f0
    rw [Tryz.cells2] at f1
    rw [Tryz.cells9] at f2
    rw [Tryz.cells26] at f3
    simp only [List.drop_zero, List.drop_succ_cons, List.take_succ_cons, List.take_zero] at f0 f1 f2 f3
    clear hfs
    obtain ⟨x0, x1, x2, x3, rfl⟩ := list4 hx4
    simp only [List.getElem?_cons_zero, List.getElem?_cons_succ] at f0 f1 f2 f3
    obtain ⟨tk, g0, -, -⟩ := DataW.trod_int Tryz.underlying3 f0
    obtain ⟨tN, g1, -, hwf⟩ := DataW.trod_int Tryz.underlying2 f1
    obtain ⟨ts, g2, -, hsm⟩ := DataW.trod_string Tryz.underlying9 f2
    simp only [List.cons.injEq, and_true] at g0 g1 g2
    subst g0 g1 g2
    unfold maxLen at hsm
    have hbulk : Rows.uptoBulk x3.1 ≤ Rows.uptoBulkAll ([x0, x1, x2, x3].map (·.1)) := bulk_part (by simp)
    have hb1 := bulk_one x3.1
    obtain ⟨m', rfl⟩ : ∃ m', m = m' + 1 := ⟨m - 1, by omega⟩
    rcases DataW.trod_slice Tryz.underlying22 f3 with ⟨g3, -⟩ | ⟨a, len, cap, elems, rest, n', hn', g3, hd3, hb, hlc, hmx, hlen, hel, -, -⟩
    · simp only [List.cons.injEq, and_true] at g3
      subst g3
      refine ⟨((⟨tk, tN, ts, none, 0, 0⟩, []) : TV × List (Tm m')), rfl, ⟨rfl, by simp [Tm.tv], by simp only [Tm.tv]; omega, .inl rfl⟩, ?_, nums_kids (nw_wf hwf) (fun u hu => by cases hu)⟩
      rw [code_succ]
      simp only [Rows.uptoBulk, List.flatMap_nil, List.length_cons, List.length_nil]
      omega
    · simp only [List.cons.injEq, and_true] at g3
      subst g3
      unfold maxLen at hmx
      by_cases hl0 : len = 0
      · subst hl0
        refine ⟨((⟨tk, tN, ts, some a, 0, cap⟩, []) : TV × List (Tm m')), rfl, ⟨rfl, by simp [Tm.tv], by simp only [Tm.tv]; omega, .inl rfl⟩, ?_, nums_kids (nw_wf hwf) (fun u hu => by cases hu)⟩
        rw [code_succ]
        simp only [Rows.uptoBulk, List.flatMap_nil, List.length_cons, List.length_nil]
        omega
      · have hel' : ∀ i, i < len → ∃ u : Tm m', w.cells? 0 (a.add (i * 4)) 4 = some [.int .i64 u.tv.k, .int .i64 u.tv.N, .string u.tv.s, .slice u.tv.a u.tv.len u.tv.cap] ∧ IsT w.heap.size w u ∧ (∀ x ∈ parts u, Nw x) ∧ ∀ d, (elems.map (·.1))[i]? = some d → (code u).length ≤ Rows.uptoBulk d := by
          intro i hi
          have h1 := hel i hi
          rw [List.getElem?_eq_getElem (by omega)] at h1
          obtain ⟨cs', h2, h3⟩ := Option.bind_eq_some_iff.1 h1
          obtain ⟨u, hu, hT, hc, hnw⟩ := ih n' (by omega) m' (by omega) cs' _ h3
          subst hu
          rw [Tryz.cells28] at h2
          refine ⟨u, h2, hT, hnw, fun d hd => ?_⟩
          rw [List.getElem?_map, List.getElem?_eq_getElem (by omega)] at hd
          simp at hd
          rw [← hd]
          exact hc
        clear hel
        obtain ⟨b, off, spot⟩ := a
        have hspot : spot = none := by
          obtain ⟨u, h2, -⟩ := hel' 0 (by omega)
          obtain ⟨s1, -⟩ := cells4 h2
          simpa [Addr.add] using s1
        subst hspot
        have hkid : ∀ i, i < len → ∃ u : Tm m', b < w.heap.size ∧ (cellsAt w b (off + i * 4) u.tv ∧ IsT w.heap.size w u) ∧ (∀ x ∈ parts u, Nw x) ∧ ∀ d, (elems.map (·.1))[i]? = some d → (code u).length ≤ Rows.uptoBulk d := by
          intro i hi
          obtain ⟨u, h2, hT, hnw, hc⟩ := hel' i hi
          rw [add_none] at h2
          obtain ⟨-, k0, k1, k2, k3⟩ := cells4 h2
          exact ⟨u, cell_lt k0, ⟨⟨k0, k1, k2, k3⟩, hT⟩, hnw, hc⟩
        obtain ⟨kids, hkl, hks⟩ := list_of hkid
        obtain ⟨_, hb0, _⟩ := hkid 0 (by omega)
        clear hkid hel' ih
        have hl63 : len ≤ 9223372036854775807 := by omega
        have hs63 : ts.size ≤ 9223372036854775807 := by omega
        have hfin : IsT w.heap.size w (n := m' + 1) (((⟨tk, tN, ts, some ⟨b, off, none⟩, len, cap⟩ : TV), kids) : TV × List (Tm m')) := isT_mk _ kids hkl.symm hl63 hs63 (.inr ⟨b, off, rfl, hb0, fun j u hu => (hks j u hu).2.1⟩)
        refine ⟨_, rfl, hfin, ?_, nums_kids (nw_wf hwf) (fun u hu => by obtain ⟨i, hi⟩ := List.getElem?_of_mem hu; exact (hks i u hi).2.2.1)⟩
        have hsum := bulk_kids kids (elems.map (·.1)) (by simp [hkl, hlen]) (fun i u d hu hd => (hks i u hu).2.2.2 d hd)
        rw [code_succ]
        have h3 : Rows.uptoBulkAll (elems.map (·.1)) + 1 ≤ Rows.uptoBulk x3.1 := by rw [hd3]; simp only [Rows.uptoBulk]; omega
        simp only [Rows.uptoBulk, List.length_cons]
        omega

set_option maxRecDepth 100000 in
/-- An argument that is a term: from some number of storeys on it is one, of no more parts than its bulk. -/
theorem open_arg_nums {H : Type} {enc : TypeId × Value → H} {w : World} {r : Reach} {b0 : Nat} {spare : Nat → Bool} {held : Bool} {v : Value} {d : DataW H} {p : List MemPlace} (hv : Value.okWide Tryz.prog w r b0 24 v) (h : DataW.Trod enc Tryz.prog w 0 spare held 24 v d p) :
    ∃ N, ∀ m, N ≤ m → ∃ t : Tm m, v = t.tv.val ∧ IsT w.heap.size w t ∧ (code t).length ≤ Rows.uptoBulk d ∧ ∀ x ∈ parts t, Nw x := by
  obtain ⟨cs, rfl, _⟩ := okWide_struct Tryz.underlying24 hv
  obtain ⟨fuel, hf⟩ := h
  refine ⟨fuel, fun m hm => ?_⟩
  obtain ⟨t, ht, hT, hc⟩ := open_nums fuel fuel (Nat.le_refl _) m hm _ _ hf
  refine ⟨t, ?_, hT, hc⟩
  have : cs.toList = [.int .i64 t.tv.k, .int .i64 t.tv.N, .string t.tv.s, .slice t.tv.a t.tv.len t.tv.cap] := by simpa [Value.cells] using ht
  unfold TV.val
  rw [← this]
end Go.Proofs.YtiigkiemkhdclaaGreatDoor

/- The contract of hornref.Flat: a new row with the cells of all parts of a term, in their order. -/
namespace Go.Proofs.YtiigkiemkhdclaaGreatDoor
open Go.RowKit Go.Shelf

theorem parts_pos : ∀ {n : Nat} (t : Tm n), 1 ≤ (parts t).length
  | 0, t => Empty.elim t
  | _ + 1, t => by simp [parts]
theorem row_all {l : List TV} : ∀ u ∈ l.flatMap TV.row, u.oneCell' = true := by
  intro u hu
  obtain ⟨x, _, hx⟩ := List.mem_flatMap.1 hu
  exact row_one u hx
/-- What a row that is not empty is, cell by cell. -/
theorem owns_src {W : World} {base : Nat} {v : Value} {l : List TV} (h : W.ownsRow base 24 4 v l.length (l.flatMap TV.row)) (h1 : 1 ≤ l.length) :
    ∃ g cap, v = .slice (some ⟨g, 0, none⟩) l.length cap ∧ base ≤ g ∧ g < W.heap.size ∧ ∀ j u, (l.flatMap TV.row)[j]? = some u → W.cell? ((⟨g, 0, none⟩ : Addr).add j) = some u := by
  obtain ⟨_, h2⟩ := h
  rcases h2 with ⟨_, hn⟩ | ⟨g, cap, cur, hv, hg, hb, _, _, _, htk⟩
  · omega
  · refine ⟨g, cap, hv, hg, (Array.getElem?_eq_some_iff.1 hb).1, fun j u hj => ?_⟩
    rw [addr_add, Nat.zero_add]
    rw [← htk, List.getElem?_take] at hj
    split at hj
    · simp [World.cell?, hb]
      simpa using hj
    · cases hj

set_option maxRecDepth 100000 in
set_option maxHeartbeats 1000000 in
theorem flat_any : ∀ (n : Nat) (t : Tm n) (w : World), IsT w.heap.size w t → (parts t).length ≤ 1000000000 → Calls Tryz.prog 36 #[t.tv.val] w fun e W' => ∃ v, e = .returned v ∧ Below w.heap.size w W' ∧ W'.ownsRow w.heap.size 24 4 v (parts t).length ((parts t).flatMap TV.row) := by
  intro n
  induction n with
  | zero => intro t; exact Empty.elim t
  | succ n ih =>
    intro t w ht hp
    obtain ⟨⟨k, kN, s, a, len, cap⟩, kids⟩ := t
    obtain ⟨hlen, hmax, hsm, hkids⟩ := ht
    simp only [Tm.tv, Tm.kids] at hlen hmax hsm hkids
    have hp' : (kids.flatMap parts).length + 1 ≤ 1000000000 := by simpa [parts, Tm.tv, Tm.kids] using hp
    simp only [Tm.tv, TV.val, parts, Tm.kids]
    have HI := hide ih
    have hl1 : len ≤ kids.length := by omega
    have hl2 : kids.length ≤ len := by omega
    clear ih hp hlen
    obtain ⟨i0, hi, hz0, hz1, hz2⟩ := info_parts Tryz.info28
    go_enter Tryz.func36, Tryz.ntmps36
    go_wp2_with fail
    obtain ⟨W2, hW2, hB2, hbx, hb2, hsz2⟩ := two_new w ⟨k, kN, s, a, len, cap⟩ ⟨k, kN, s, a, len, cap⟩
    simp only at hW2
    rw [hW2]
    clear hW2
    have hown0 : W2.ownsRow (w.heap.size + 1) 24 4 (.slice (some ⟨w.heap.size + 1, 0, none⟩) 1 1) ((⟨k, kN, s, a, len, cap⟩ :: (kids.take 0).flatMap parts : List TV)).length ((⟨k, kN, s, a, len, cap⟩ :: (kids.take 0).flatMap parts : List TV).flatMap TV.row) :=
      ⟨by simp [TV.row], .inr ⟨w.heap.size + 1, 1, _, rfl, Nat.le_refl _, hb2, by simp, by decide, rfl, by simp [TV.row]⟩⟩
    have HB2 := hide hB2
    have HBX := hide hbx
    clear hB2 hbx hb2
    go_loopw [3, 4] (fun av i wr => ∃ j : Nat, j ≤ len ∧ i = .int .i64 j ∧ Below (w.heap.size + 1) W2 wr ∧ wr.ownsRow (w.heap.size + 1) 24 4 av ((⟨k, kN, s, a, len, cap⟩ :: (kids.take j).flatMap parts : List TV)).length ((⟨k, kN, s, a, len, cap⟩ :: (kids.take j).flatMap parts : List TV).flatMap TV.row)) (fun _ i _ => len - (intOf i).toNat)
    case atStart => exact ⟨0, Nat.zero_le _, rfl, Below.refl _ _, hown0⟩
    case round =>
      obtain ⟨j, hj, rfl, hb, hm⟩ := hrel
      clear hown0
      have hwr : w.heap.size + 2 ≤ wr.heap.size := by have := hb.size; omega
      have hbw : Below w.heap.size w wr := (unhide HB2).trans (hb.mono (by omega))
      have hbr : BoxT wr w.heap.size ⟨k, kN, s, a, len, cap⟩ := (hb.block w.heap.size (by omega)).trans (unhide HBX)
      have x3 := hbr.c3
      simp only at x3
      have HM := hide hm
      clear hm hbr
      by_cases hlt : j < len
      · obtain ⟨u, b, off, hu, rfl, ⟨c0, c1, c2, c3⟩, hT, hbk⟩ := kid_at hkids hbw hlt hl1
        have hpp := pre_parts kids j u hu
        have ihu := (unhide HI) u wr hT (by omega)
        have htk := take_parts kids j u hu
        have hpos := parts_pos u
        have HTK := hide htk
        clear hT hkids hu htk
        simp only [TV.val] at ihu
        have hj1 : (j : Int) < len := by omega
        go_wp2_with fail
        refine ihu.mono ?_
        clear ihu
        rintro e W5 ⟨v5, rfl, hb5, hown5⟩
        obtain ⟨g5, cap5, rfl, hg5, hlt5, hsrc⟩ := owns_src hown5 hpos
        have hgl : ∀ g, u3.ownBlock = some g → w.heap.size + 1 ≤ g ∧ g < wr.heap.size := fun g hg => owns_lt (unhide HM) hg
        have hown6 := owns_below (W' := W5) (unhide HM) (fun g hg => hb5.block g (hgl g hg).2)
        obtain ⟨l, hl⟩ : ∃ l : List TV, (⟨k, kN, s, some ⟨b, off, none⟩, len, cap⟩ :: (kids.take j).flatMap parts) = l := ⟨_, rfl⟩
        have hll : l.length = ((kids.take j).flatMap parts).length + 1 := by rw [← hl]; simp
        rw [hl] at hown6
        clear x3 c0 c1 c2 c3
        go_wp2_with (at_builtin; go_must (refine wpList_append_own_at _ rfl _ _ 22 rfl (w.heap.size + 1) 24 i0 _ 4 56 Tryz.underlying22 hi hz0 hz1 hz2 rfl (by decide) u3 l.length (l.flatMap TV.row) rfl hown6 ⟨g5, 0, none⟩ (parts u).length cap5 ((parts u).flatMap TV.row) rfl (row_len _) hsrc row_all (by unfold maxLen; omega) (by omega) (by have := hb5.size; omega) ?_; intro v' w1 hown' hgrow hnil hbk))
        have hbel : Below (w.heap.size + 1) W2 w1 := (hb.trans (hb5.mono (by omega))).grown hgrow (by have := hb5.size; omega) (fun g hg => (hgl g hg).1)
        have hlast : w1.ownsRow (w.heap.size + 1) 24 4 v' ((⟨k, kN, s, some ⟨b, off, none⟩, len, cap⟩ :: (kids.take (j + 1)).flatMap parts : List TV)).length ((⟨k, kN, s, some ⟨b, off, none⟩, len, cap⟩ :: (kids.take (j + 1)).flatMap parts : List TV).flatMap TV.row) := by
          rw [unhide HTK, ← List.cons_append, hl, List.length_append, List.flatMap_append]
          exact hown'
        exact ⟨⟨j + 1, by omega, by go_num, hbel, hlast⟩, by simp [intOf]; omega⟩
      · have ht : kids.take j = kids := List.take_of_length_le (by omega)
        have hm := unhide HM
        rw [ht] at hm
        have HM2 := hide hm
        clear hm ht hkids
        go_wp2_with fail
        refine bodyPost_ret (v := u3) (by simp [results, Tryz.results36, go_sem]) rfl ⟨_, rfl, hbw, ?_⟩
        obtain ⟨q1, q2⟩ := unhide HM2
        refine ⟨q1, ?_⟩
        rcases q2 with q2 | ⟨g, cp, cur, e1, e2, e3⟩
        · exact .inl q2
        · exact .inr ⟨g, cp, cur, e1, by omega, e3⟩
end Go.Proofs.YtiigkiemkhdclaaGreatDoor

