import Derived.Test.YtcjeeagnfmipgaaGreatDoorAns
import Derived.Test.YtcjeeagnfmipgaaGreatDoorNss
import Derived.Test.YtcjeeagnfmipgaaGreatDoorKbs
import Derived.StringKeys
import Derived.Laws.IdiomStrings
import Derived.Test.YtcjeeagnfmipgaaGreatDoorMps
import Derived.Test.YtcjeeagnfmipgaaGreatDoorWos
/- The contract of General's closure: a variable for each pair of terms, the same for the same pair. -/
namespace Go.Proofs.YtcjeeagnfmipgaaGreatDoor
open Go.RowKit Go.Shelf Go.Maps

theorem Tryz.keyed9 : Keyed Tryz.prog 9 := string_keyed Tryz.underlying9
def stpP (ps : List Pr) (p : Pr) : List Pr := if p ∈ ps then ps else ps ++ [p]
def WordP (p : Pr) : Prop := Word p.1 ∧ Word p.2
/-- The map of pairs, the box that holds it. -/
structure Si (n₀ gb mb : Nat) (ps : List Pr) (W : World) : Prop where
  nodup : ps.Nodup
  word : ∀ p ∈ ps, WordP p
  tab : Tab n₀ W
  box : W.heap[gb]? = some (.cells #[.map (some mb)] 92 (0, 0))
  map : ∃ E : DataW Unit, W.ownsMap Tryz.prog 9 (plainElem Tryz.prog 2) mb ps.length E ∧ Maps.size E = ps.length ∧ (∀ k, Maps.has E (.string k) = true ↔ ∃ p ∈ ps, keyP p = k) ∧ ∀ p ∈ ps, ∀ z, E.atKey (.string (keyP p)) z = .lit (.int .i64 (ps.idxOf p : Nat))
theorem si_keep {n₀ gb mb lo : Nat} (h0 : n₀ ≤ lo) (h1 : gb < lo) (h2 : mb < lo) {ps : List Pr} {W W' : World} (h : Si n₀ gb mb ps W) (hb : Below lo W W') : Si n₀ gb mb ps W' := by
  obtain ⟨E, ⟨es, clock, e1, e2⟩, e3⟩ := h.map
  exact ⟨h.nodup, h.word, h.tab.on (hb.mono h0), (hb.block _ h1).trans h.box, E, ⟨es, clock, (hb.block _ h2).trans e1, e2⟩, e3⟩
theorem key_str {l : List UInt8} (h : l.length ≤ 1000000000000) : keyOf Tryz.prog 9 (.string ⟨l.toArray⟩) = some (.string l) := by
  have := Go.WideMaps.keyOf_string_mk (P := Tryz.prog) (k := 9) Tryz.underlying9 (s := ⟨l.toArray⟩) (by show l.toArray.size ≤ maxLen; unfold maxLen; simp; omega)
  simpa using this
theorem has_key {n₀ gb mb : Nat} {ps : List Pr} {W : World} (h : Si n₀ gb mb ps W) {p : Pr} (hp : WordP p) : (∃ q ∈ ps, keyP q = keyP p) ↔ p ∈ ps := by
  constructor
  · rintro ⟨q, hq, e⟩
    have := keyP_inj (h.word q hq).1 (h.word q hq).2 hp.1 hp.2 e
    rw [← this]; exact hq
  · exact fun hq => ⟨p, hq, rfl⟩
theorem si_look {n₀ gb mb : Nat} {ps : List Pr} {W : World} (h : Si n₀ gb mb ps W) {p : Pr} (hk : (keyP p).length ≤ 1000000000000) (hp : p ∈ ps) :
    (Instr.lookup 92 (.map (some mb)) (.string ⟨(keyP p).toArray⟩) true).run Tryz.prog W = .ok (.tuple #[.int .i64 (ps.idxOf p : Nat), .bool true]) W := by
  obtain ⟨E, e1, e0, e2, e3⟩ := h.map
  obtain ⟨v, q, hrun, hv⟩ := e1.look_ok Tryz.keyed9 Tryz.underlying92 (Tryz.zero2 W) (plainElem_int Tryz.underlying2 (by decide)) (key_str hk)
  rw [(e2 _).2 ⟨p, hp, rfl⟩] at hrun
  rw [e3 p hp] at hv
  obtain ⟨y, rfl, hy, _⟩ := plainElem_int_inv Tryz.underlying2 hv
  simp at hy
  rw [hrun, hy.1]
theorem si_miss {n₀ gb mb : Nat} {ps : List Pr} {W : World} (h : Si n₀ gb mb ps W) {p : Pr} (hw : WordP p) (hk : (keyP p).length ≤ 1000000000000) (hp : p ∉ ps) :
    (Instr.lookup 92 (.map (some mb)) (.string ⟨(keyP p).toArray⟩) true).run Tryz.prog W = .ok (.tuple #[.int .i64 0, .bool false]) W := by
  obtain ⟨E, e1, e0, e2, e3⟩ := h.map
  obtain ⟨v, q, hrun, hv⟩ := e1.look_ok Tryz.keyed9 Tryz.underlying92 (Tryz.zero2 W) (plainElem_int Tryz.underlying2 (by decide)) (key_str hk)
  have hf : Maps.has E (.string (keyP p)) = false := by
    cases hh : Maps.has E (.string (keyP p)) with
    | false => rfl
    | true => exact (hp ((has_key h hw).1 ((e2 _).1 hh))).elim
  rw [hf] at hrun
  rw [atKey_of_not_has hf] at hv
  obtain ⟨y, rfl, hy, _⟩ := plainElem_int_inv Tryz.underlying2 hv
  simp at hy
  rw [hrun, hy.1]
theorem si_len {n₀ gb mb : Nat} {ps : List Pr} {W : World} (h : Si n₀ gb mb ps W) (ty : TypeId) : (Builtin.len_ #[92] ty #[.map (some mb)]).run Tryz.prog W = .ok (.int .i64 (ps.length : Nat)) W := by
  obtain ⟨E, e1, e0, _⟩ := h.map
  rw [e1.len Tryz.underlying92 ty, e0]
theorem si_put {n₀ gb mb : Nat} {ps : List Pr} {W : World} (h : Si n₀ gb mb ps W) (hne : mb ≠ gb) (hn : n₀ ≤ mb) {p : Pr} (hw : WordP p) (hk : (keyP p).length ≤ 1000000000000) (hl : ps.length ≤ 1099511627776) (hp : p ∉ ps) :
    ∃ W', (Instr.mapUpdate 92 (.map (some mb)) (.string ⟨(keyP p).toArray⟩) (.int .i64 (ps.length : Nat))).run Tryz.prog W = .ok () W' ∧ W.grownBy W' (some mb) ∧ Si n₀ gb mb (ps ++ [p]) W' := by
  obtain ⟨E, e1, e0, e2, e3⟩ := h.map
  have hm := e1.isMap
  have htd := e1.tidy Tryz.keyed9
  obtain ⟨W', hrun, f1, f2⟩ := e1.update Tryz.keyed9 Tryz.underlying92 (by unfold maxLen; omega) (key_str hk) (plainElem_int Tryz.underlying2 (wf_i64 (N := (ps.length : Nat)) (by omega) (by omega)))
  have hkl : WideAt.IsKeyLit (.string (keyP p)) := Tryz.keyed9.key (key_str hk)
  have hlt : ∀ {k : Nat} {o : Obj}, W.heap[k]? = some o → k < W.heap.size := fun hk => (Array.getElem?_eq_some_iff.1 hk).1
  have hno : Maps.has E (.string (keyP p)) = false := by
    cases hh : Maps.has E (.string (keyP p)) with
    | false => rfl
    | true => exact (hp ((has_key h hw).1 ((e2 _).1 hh))).elim
  have hms := e1.lt
  refine ⟨W', hrun, f2, ⟨?_, ?_, ?_, ?_, _, (by simpa using f1), ?_, ?_, ?_⟩⟩
  · rw [List.nodup_append]
    exact ⟨h.nodup, by simp, fun a ha b hb => by simp at hb; subst hb; exact fun e => hp (e ▸ ha)⟩
  · intro q hq
    rcases List.mem_append.1 hq with hq | hq
    · exact h.word q hq
    · simp at hq; subst hq; exact hw
  · exact h.tab.on (grown_below f2 hn (by omega))
  · exact (f2.block gb (hlt h.box) (by simpa using hne.symm)).trans h.box
  · rw [size_put htd, hno, e0]; simp
  · intro k
    by_cases e : k = keyP p
    · subst e
      rw [has_put_same hm hkl]
      simp
    · rw [has_put_other (by simpa using e), e2 k]
      constructor
      · rintro ⟨q, h1, h2⟩; exact ⟨q, List.mem_append_left _ h1, h2⟩
      · rintro ⟨q, h1, h2⟩
        rcases List.mem_append.1 h1 with h1 | h1
        · exact ⟨q, h1, h2⟩
        · simp at h1; subst h1; exact (e h2.symm).elim
  · intro q hq z
    by_cases e : q = p
    · subst e
      rw [atKey_put_same hm hkl]
      have : (ps ++ [q]).idxOf q = ps.length := by rw [List.idxOf_append, if_neg hp]; simp
      rw [this]
    · have hqc : q ∈ ps := by simpa [e] using hq
      have hkn : keyP q ≠ keyP p := fun e' => e (keyP_inj (h.word q hqc).1 (h.word q hqc).2 hw.1 hw.2 e')
      rw [atKey_put_other (by simpa using hkn), e3 q hqc, List.idxOf_append, if_pos hqc]

theorem Tab.mono {B B' : Nat} {w : World} (h : Tab B w) (hB : B ≤ B') : Tab B' w := fun w' hb => h w' (hb.mono hB)
theorem three_new (w : World) (x y : TV) : ∃ W3, ((w.alloc (.cells #[.int .i64 x.k, .int .i64 x.N, .string x.s, .slice x.a x.len x.cap] 24)).alloc (.cells #[.int .i64 y.k, .int .i64 y.N, .string y.s, .slice y.a y.len y.cap] 24)).alloc (.cells #[.int .i64 0, .int .i64 0, .string ⟨#[]⟩, .slice none 0 0] 24) = W3 ∧ Below w.heap.size w W3 ∧ BoxT W3 w.heap.size x ∧ BoxT W3 (w.heap.size + 1) y ∧ BoxT W3 (w.heap.size + 2) ⟨0, 0, ⟨#[]⟩, none, 0, 0⟩ ∧ W3.heap.size = w.heap.size + 3 := by
  obtain ⟨W2, h1, h2, h3, h4, h5⟩ := two_new w x y
  rw [h1]
  refine ⟨_, rfl, h2.alloc (by omega) _, h3.alloc _, h4.alloc _, ?_, by simp [h5]⟩
  have := BoxT.new W2 ⟨0, 0, ⟨#[]⟩, none, 0, 0⟩
  rw [h5] at this
  exact this
theorem enc_pos {c : List Nd} (h : Word c) : 0 < (enc c).length := by
  cases c with
  | nil => simp [Word, runW] at h
  | cons x c =>
    simp only [enc, List.flatMap_cons, List.length_append, encN, List.length_cons]
    omega
/-- The bytes of a row, as a string. -/
theorem row_string {B : Nat} {W : World} {v : Value} {l : List UInt8} (h : Bytes B W v l) (hl : 0 < l.length) : (convert 94 9 v).run Tryz.prog W = .ok (.string ⟨l.toArray⟩) W := by
  have h' := h
  rcases h.2 with ⟨_, h0⟩ | ⟨g, cap, cur, rfl, _⟩
  · omega
  · exact run_convert_bytes_back (P := Tryz.prog) W 94 9 5 ⟨g, 0, none⟩ cap l Tryz.underlying94 Tryz.underlying5 Tryz.underlying9 (fun j hj => World.ownsRow.cells h' (g := g) rfl j _ (by simp [Lib.byteCells, hj]))

set_option maxRecDepth 100000 in
set_option maxHeartbeats 2000000 in
theorem stand_any {n n₀ gb mb : Nat} (a b : Tm n) (ps : List Pr) (W : World) (hn : n₀ ≤ mb) (hlt : gb < W.heap.size ∧ mb < W.heap.size) (hne : mb ≠ gb) (hI : Si n₀ gb mb ps W) (ha : IsT n₀ W a) (hb : IsT n₀ W b) (pa : ∀ x ∈ parts a, Pw x) (pb : ∀ x ∈ parts b, Pw x) (hla : (parts a).length ≤ 1000000000) (hlb : (parts b).length ≤ 1000000000) (hps : ps.length ≤ 1000000000) :
    Calls Tryz.prog 64 #[a.tv.val, b.tv.val, .pointer (some ⟨gb, 0, none⟩)] W fun e W' => e = .returned (varV ((stpP ps (code a, code b)).idxOf (code a, code b) : Nat)).val ∧ GrB (fun k => k = mb) W.heap.size W W' ∧ Si n₀ gb mb (stpP ps (code a, code b)) W' := by
  obtain ⟨W3, hW3, hB3, hba, hbb, hbz, hs3⟩ := three_new W a.tv b.tv
  have hwp : WordP (code a, code b) := ⟨word_code a ha.wl, word_code b hb.wl⟩
  have hka : (enc (code a)).length ≤ 200 * (parts a).length := enc_len (parts a) pa
  have hkb : (enc (code b)).length ≤ 200 * (parts b).length := enc_len (parts b) pb
  have hkey : (keyP (code a, code b)).length ≤ 1000000000000 := by simp only [keyP, List.length_append]; omega
  have hpos : 0 < (keyP (code a, code b)).length := by have h : 0 < (enc (code a)).length := enc_pos hwp.1; simp only [keyP, List.length_append]; omega
  have hdr : Below W3.heap.size W3 W3.drew := (Below.refl _ W3).drew
  have hI3 : Si n₀ gb mb ps W3 := si_keep (lo := W.heap.size) (by omega) hlt.1 hlt.2 hI hB3
  have ha3 : IsT W3.heap.size W3 a := (ha.below (hB3.mono (by omega))).mono (by omega)
  have hb3 : IsT W3.heap.size W3 b := (hb.below (hB3.mono (by omega))).mono (by omega)
  have htab : Tab W3.heap.size W3 := hI3.tab.mono (by omega)
  have h1 : Calls Tryz.prog 65 #[.slice none 0 0, a.tv.val] W3.drew fun e W4 => ∃ v, e = .returned v ∧ Bytes W3.heap.size W4 v (enc (code a)) ∧ Below W3.heap.size W3 W4 := by
    refine (appendKey_any a W3.heap.size (.slice none 0 0) [] W3.drew (ha3.below hdr) pa hdr.size (World.ownsRow_nil _ _ _ _) (by simp; omega) (htab.on hdr)).mono fun e W4 h => ?_
    obtain ⟨v, e1, e2, e3, _⟩ := h
    exact ⟨v, e1, by simpa using e2, hdr.trans e3⟩
  have h2 : ∀ (W4 : World) (v : Value), Bytes W3.heap.size W4 v (enc (code a)) → Below W3.heap.size W3 W4 → Calls Tryz.prog 65 #[v, b.tv.val] W4 fun e W5 => ∃ v', e = .returned v' ∧ Bytes W3.heap.size W5 v' (keyP (code a, code b)) ∧ Below W3.heap.size W4 W5 := fun W4 v hv hb4 => by
    refine (appendKey_any b W3.heap.size v (enc (code a)) W4 (hb3.below hb4) pb hb4.size hv (by omega) (htab.on hb4)).mono fun e W5 h => ?_
    obtain ⟨v', e1, e2, e3, _⟩ := h
    exact ⟨v', e1, e2, e3⟩
  obtain ⟨k, hk⟩ : ∃ k, keyP (code a, code b) = k := ⟨_, rfl⟩
  obtain ⟨p, hp⟩ : ∃ p, ((code a, code b) : Pr) = p := ⟨_, rfl⟩
  have hkp : keyP p = k := by rw [← hp, hk]
  rw [hp] at hwp ⊢
  rw [hk] at h2 hkey hpos
  clear hk hp
  have a0 := hba.c0
  have a1 := hba.c1
  have a2 := hba.c2
  have a3 := hba.c3
  have b0 := hbb.c0
  have b1 := hbb.c1
  have b2 := hbb.c2
  have b3 := hbb.c3
  simp only [TV.val] at h1 h2 ⊢
  have HI3 := hide hI3
  have HBZ := hide hbz
  have HB3 := hide hB3
  have HKP := hide hkp
  have HWP := hide hwp
  have hx1 : W.heap.size < W3.heap.size := by omega
  have hx2 : W.heap.size + 1 < W3.heap.size := by omega
  clear hI hI3 hbz hB3 ha hb ha3 hb3 htab pa pb hba hbb hka hkb hdr hkp hwp
  go_enter Tryz.func64, Tryz.ntmps64
  go_wp2_with fail
  refine wp_region_noPanic ?_
  refine wp_region_held_drew (S := (fun w' => (w'.cell? ⟨W.heap.size, 0, none⟩ = some (.int .i64 a.tv.k) ∧ w'.cell? ⟨W.heap.size, 1, none⟩ = some (.int .i64 a.tv.N) ∧ w'.cell? ⟨W.heap.size, 2, none⟩ = some (.string a.tv.s) ∧ w'.cell? ⟨W.heap.size, 3, none⟩ = some (.slice a.tv.a a.tv.len a.tv.cap)) ∧ w'.cell? ⟨W.heap.size + 1, 0, none⟩ = some (.int .i64 b.tv.k) ∧ w'.cell? ⟨W.heap.size + 1, 1, none⟩ = some (.int .i64 b.tv.N) ∧ w'.cell? ⟨W.heap.size + 1, 2, none⟩ = some (.string b.tv.s) ∧ w'.cell? ⟨W.heap.size + 1, 3, none⟩ = some (.slice b.tv.a b.tv.len b.tv.cap))) (by kernel_rfl) ?_ (fun hHeld => ?_)
  · go_keep
  refine wpAnyH_take (i := 0) (oi := { dst := some 9, op := Op.load 24 (Operand.tmp 3), type := 24, pos := "general.go:16", after := #[], guard := none }) (v := ?_) rfl (by kernel_rfl) (by kernel_rfl) (by kernel_rfl) (fun _ _ _ h => h) (Or.inl ⟨by rfl, ?_⟩) hHeld ?_
  rotate_left
  · (intro w' hSw; (try dsimp only at hSw); go_simp; try with_reducible rfl)
  try simp only [Act.put, List.setIfInBounds_toArray, List.set_cons_zero, List.set_cons_succ]
  refine wpAnyH_take (i := 2) (oi := { dst := some 11, op := Op.load 24 (Operand.tmp 4), type := 24, pos := "general.go:16", after := #[], guard := none }) (v := ?_) rfl (by kernel_rfl) (by kernel_rfl) (by kernel_rfl) (fun _ _ _ h => h) (Or.inl ⟨by rfl, ?_⟩) hHeld ?_
  rotate_left
  · (intro w' hSw; (try dsimp only at hSw); go_simp; try with_reducible rfl)
  try simp only [Act.put, List.setIfInBounds_toArray, List.set_cons_zero, List.set_cons_succ]
  refine wpAnyH_ready (rs := [1]) (by kernel_rfl) (by simp) ?_
  refine AllReadyH.cons (o := { dst := some 10, op := Op.call { callee := Callee.value (Operand.func 65), args := #[Operand.const (Value.slice none 0 0), Operand.tmp 9], argTypes := #[94, 24] }, type := 94, pos := "general.go:16", after := #[{ on := 0, ground := Ground.data }], guard := none }) rfl (fun K hK => ?_) AllReadyH.nil
  have hHold := hHeld
  clear hHeld
  go_simp
  refine h1.mono ?_
  clear h1
  rintro e W4 ⟨v, rfl, hv, hb4⟩
  obtain ⟨va, vl, vc, rfl⟩ := bytes_slice hv
  have hbc := bcell hb4
  go_wp2_with fail
  refine hK.out _ _ ?_ (fun hHeld => ?_)
  · ((try dsimp only); go_keep)
  clear hK K hHold
  try simp only [Act.put, List.setIfInBounds_toArray, List.set_cons_zero, List.set_cons_succ]
  refine wpAnyH_ready (rs := [3]) (by kernel_rfl) (by simp) ?_
  refine AllReadyH.cons (o := { dst := some 12, op := Op.call { callee := Callee.value (Operand.func 65), args := #[Operand.tmp 10, Operand.tmp 11], argTypes := #[94, 24] }, type := 94, pos := "general.go:16", after := #[{ on := 1, ground := Ground.data }, { on := 2, ground := Ground.data }, { on := 1, ground := Ground.chain }], guard := none }) rfl (fun K hK => ?_) AllReadyH.nil
  have hHold := hHeld
  clear hHeld
  go_simp
  refine (h2 W4 _ hv hb4).mono ?_
  clear h2
  rintro e W5 ⟨v', rfl, hv', hb5⟩
  obtain ⟨ua, ul, uc, rfl⟩ := bytes_slice hv'
  have hcv := row_string hv' hpos
  have hbd := bcell (hb4.trans hb5)
  go_wp2_with fail
  refine hK.out _ _ ?_ (fun hHeld => ?_)
  · ((try dsimp only); go_keep)
  clear hK K hHold
  try simp only [Act.put, List.setIfInBounds_toArray, List.set_cons_zero, List.set_cons_succ]
  refine wpAnyH_ready (rs := [4]) (by kernel_rfl) (by simp) ?_
  refine AllReadyH.cons (o := { dst := some 13, op := Op.convert 94 9 (Operand.tmp 12), type := 9, pos := "general.go:16", after := #[{ on := 3, ground := Ground.data }], guard := none }) rfl (fun K hK => ?_) AllReadyH.nil
  have hHold := hHeld
  clear hHeld
  go_simp
  refine hK.out _ _ ?_ (fun hHeld => ?_)
  · ((try dsimp only); go_keep)
  clear hK K hHold
  try simp only [Act.put, List.setIfInBounds_toArray, List.set_cons_zero, List.set_cons_succ]
  refine wpAnyH_take (i := 5) (oi := { dst := some 6, op := Op.assign (Operand.tmp 13), type := 9, pos := "general.go:16", after := #[{ on := 4, ground := Ground.data }, { on := 3, ground := Ground.chain }, { on := 0, ground := Ground.phase }, { on := 1, ground := Ground.phase }, { on := 2, ground := Ground.phase }, { on := 3, ground := Ground.phase }, { on := 4, ground := Ground.phase }], guard := none }) (v := ?_) rfl (by kernel_rfl) (by kernel_rfl) (by kernel_rfl) (fun _ _ _ h => h) (Or.inl ⟨by rfl, ?_⟩) hHeld ?_
  rotate_left
  · (intro w' hSw; (try dsimp only at hSw); go_simp; try with_reducible rfl)
  try simp only [Act.put, List.setIfInBounds_toArray, List.set_cons_zero, List.set_cons_succ]
  refine wpAnyH_done (by kernel_rfl) ?_ _
  refine NoPanic.normal ?_
  have hb35 : Below W3.heap.size W3 W5 := hb4.trans hb5
  have hI5 := si_keep (lo := W3.heap.size) (by omega) (by omega) (by omega) (unhide HI3) hb35
  have hbz5 : BoxT W5 (W.heap.size + 2) ⟨0, 0, ⟨#[]⟩, none, 0, 0⟩ := (hb35.block _ (by omega)).trans (unhide HBZ)
  have hBW5 : Below W.heap.size W W5 := (unhide HB3).trans (hb35.mono (by omega))
  have hs5 : W.heap.size + 3 ≤ W5.heap.size := by have := hb35.size; omega
  obtain ⟨m0, -⟩ := one_cell hI5.box
  clear hHeld hv hv' hcv hbc hbd hb4 hb5 hb35 HI3 HBZ HB3 a0 a1 a2 a3 b0 b1 b2 b3
  have HBW5 := hide hBW5
  have HBZ5 := hide hbz5
  clear hBW5 hbz5
  by_cases hp : p ∈ ps
  · have hrun := si_look hI5 (p := p) (by rw [unhide HKP]; exact hkey) hp
    rw [unhide HKP] at hrun
    have e0 : stpP ps p = ps := if_pos hp
    obtain ⟨M, hM⟩ : ∃ M : Int, (ps.idxOf p : Int) = M := ⟨_, rfl⟩
    rw [hM] at hrun
    have e1 : (((stpP ps p).idxOf p : Nat) : Int) = M := by rw [e0]; exact hM
    have hI6 : ∀ W', Below W.heap.size W5 W' → Si n₀ gb mb (stpP ps p) W' := fun W' hb => by rw [e0]; exact si_keep (lo := W.heap.size) (by omega) hlt.1 hlt.2 hI5 hb
    have hva := variable_any M W5
    have HE1 := hide e1
    have HI6 := hide hI6
    simp only [TV.val, varV] at hva
    clear e0 e1 hM hp hI5 hI6
    go_wp2_with fail
    refine hva.mono ?_
    clear hva hrun
    rintro e W6 ⟨rfl, hb6⟩
    have hbz6 := (hb6.block _ (unhide HBZ5).lt).trans (unhide HBZ5)
    obtain ⟨⟨z0, z1, z2, z3⟩, y0, y1, y2, y3⟩ := zbox_kept hbz6
    have hB6 : Below W.heap.size W5 (set4 W6 (W.heap.size + 2) 0 (varV M)) := set4_below (hb6.mono (by omega)) (by omega) 0 _
    have HB6 := hide hB6
    clear hb6 hbz6 hB6
    go_wp2_with fail
    exact bodyPost_ret (v := (varV M).val) (by simp [results, Tryz.results64, go_sem, TV.val, varV, z0, z1, z2, z3]) rfl ⟨by rw [unhide HE1]; rfl, GrB.of_below ((unhide HBW5).trans (unhide HB6)), (unhide HI6) _ (unhide HB6)⟩
  · have hrun := si_miss hI5 (p := p) (unhide HWP) (by rw [unhide HKP]; exact hkey) hp
    rw [unhide HKP] at hrun
    have hlen := si_len hI5
    obtain ⟨W6, hup, hg6, hI6⟩ := si_put hI5 hne hn (unhide HWP) (by rw [unhide HKP]; exact hkey) (by omega) hp
    rw [unhide HKP] at hup
    have e0 : stpP ps p = ps ++ [p] := if_neg hp
    have e1 : (((stpP ps p).idxOf p : Nat) : Int) = (ps.length : Nat) := by rw [e0, List.idxOf_append, if_neg hp]; simp
    rw [← e0] at hI6
    have hva := variable_any (ps.length : Nat) W6
    have hbz6 : BoxT W6 (W.heap.size + 2) ⟨0, 0, ⟨#[]⟩, none, 0, 0⟩ := (hg6.block _ (unhide HBZ5).lt (by simp; omega)).trans (unhide HBZ5)
    have hG6 : GrB (fun k => k = mb) W.heap.size W W6 := (GrB.of_below (unhide HBW5)).trans ⟨hg6.os, hg6.tape, hg6.output, hg6.size, fun k hk hx => hg6.block k (by omega) (by simpa using hx)⟩
    have hs6 : W.heap.size + 3 ≤ W6.heap.size := by have := hg6.size; omega
    have HE1 := hide e1
    have HI6 := hide hI6
    have HBZ6 := hide hbz6
    have HG6 := hide hG6
    simp only [TV.val, varV] at hva
    clear e0 e1 hp hI5 hI6 hg6 hbz6 hG6
    go_wp2_with fail
    refine hva.mono ?_
    clear hva hrun hup hlen
    rintro e W7 ⟨rfl, hb7⟩
    have hbz7 := (hb7.block _ (unhide HBZ6).lt).trans (unhide HBZ6)
    obtain ⟨⟨z0, z1, z2, z3⟩, y0, y1, y2, y3⟩ := zbox_kept hbz7
    have hB7 : Below W.heap.size W6 (set4 W7 (W.heap.size + 2) 0 (varV (ps.length : Nat))) := set4_below (hb7.mono (by omega)) (by omega) 0 _
    have HB7 := hide hB7
    clear hb7 hbz7 hB7
    go_wp2_with fail
    exact bodyPost_ret (v := (varV (ps.length : Nat)).val) (by simp [results, Tryz.results64, go_sem, TV.val, varV, z0, z1, z2, z3]) rfl ⟨by rw [unhide HE1]; rfl, (unhide HG6).trans (GrB.of_below (unhide HB7)), si_keep (lo := W.heap.size) (by omega) hlt.1 hlt.2 (unhide HI6) (unhide HB7)⟩
end Go.Proofs.YtcjeeagnfmipgaaGreatDoor

/- The contract of term.generalize. -/
namespace Go.Proofs.YtcjeeagnfmipgaaGreatDoor
open Go.RowKit Go.Shelf Go.Maps

def stepsP (ps : List Pr) (l : List Pr) : List Pr := l.foldl stpP ps
def ιP (ps : List Pr) (p : Pr) : Int := (ps.idxOf p : Nat)
theorem stepsP_append (ps l l' : List Pr) : stepsP ps (l ++ l') = stepsP (stepsP ps l) l' := List.foldl_append
theorem stpP_ext (ps : List Pr) (p : Pr) : ∃ d, stpP ps p = ps ++ d := by
  unfold stpP
  split
  · exact ⟨[], by simp⟩
  · exact ⟨[p], rfl⟩
theorem stepsP_ext : ∀ (l ps : List Pr), ∃ d, stepsP ps l = ps ++ d ∧ d.length ≤ l.length
  | [], ps => ⟨[], by simp [stepsP], Nat.le_refl _⟩
  | p :: l, ps => by
    have e : stepsP ps (p :: l) = stepsP (stpP ps p) l := rfl
    rw [e]
    obtain ⟨d, hd, hl⟩ := stepsP_ext l (stpP ps p)
    rw [hd]
    unfold stpP
    split
    · exact ⟨d, rfl, by simp; omega⟩
    · exact ⟨[p] ++ d, by simp, by simp; omega⟩
theorem stpP_mem (ps : List Pr) (p : Pr) : p ∈ stpP ps p := by
  unfold stpP
  split
  · assumption
  · simp
theorem stepsP_mem : ∀ (l ps : List Pr), ∀ p ∈ l, p ∈ stepsP ps l
  | q :: l, ps, p, hp => by
    have e : stepsP ps (q :: l) = stepsP (stpP ps q) l := rfl
    rw [e]
    rcases List.mem_cons.1 hp with rfl | hp
    · obtain ⟨d, hd, _⟩ := stepsP_ext l (stpP ps p)
      rw [hd]; exact List.mem_append_left _ (stpP_mem ps p)
    · exact stepsP_mem l _ p hp
theorem ιP_stay {ps l : List Pr} {p : Pr} (h : p ∈ ps) : ιP (stepsP ps l) p = ιP ps p := by
  obtain ⟨d, hd, _⟩ := stepsP_ext l ps
  unfold ιP
  rw [hd, List.idxOf_append, if_pos h]
theorem Gc_congr {ι ι' : Pr → Int} : ∀ {n : Nat} (a b : Tm n), (∀ p ∈ prs a b, ι p = ι' p) → Gc ι a b = Gc ι' a b
  | 0, a, _, _ => Empty.elim a
  | n + 1, a, b, h => by
    cases hap : apart a.tv b.tv with
    | true =>
      rw [prs_apart hap] at h
      rw [Gc_apart hap, Gc_apart hap, h _ (by simp)]
    | false =>
      rw [prs_like hap] at h
      rw [Gc_like hap, Gc_like hap]
      congr 1
      have key : ∀ (l r : List (Tm n)), (∀ p ∈ zf prs l r, ι p = ι' p) → zf (Gc ι) l r = zf (Gc ι') l r := by
        intro l
        induction l with
        | nil => intro r _; cases r <;> rfl
        | cons u l ih =>
          intro r hp
          cases r with
          | nil => rfl
          | cons v r =>
            simp only [zf] at hp ⊢
            rw [Gc_congr u v (fun p hp' => hp p (List.mem_append_left _ hp')), ih r (fun p hp' => hp p (List.mem_append_right _ hp'))]
      exact key _ _ h
theorem zf_congr {ι ι' : Pr → Int} {n : Nat} : ∀ (l r : List (Tm n)), (∀ p ∈ zf prs l r, ι p = ι' p) → zf (Gc ι) l r = zf (Gc ι') l r
  | [], r, _ => by cases r <;> rfl
  | _ :: _, [], _ => rfl
  | u :: l, v :: r, h => by
    simp only [zf] at h ⊢
    rw [Gc_congr u v (fun p hp => h p (List.mem_append_left _ hp)), zf_congr l r (fun p hp => h p (List.mem_append_right _ hp))]
theorem zf_next {α β : Type} {f : α → α → List β} : ∀ (a b : List α) (j : Nat) (u v : α), a[j]? = some u → b[j]? = some v → zf f (a.take (j + 1)) (b.take (j + 1)) = zf f (a.take j) (b.take j) ++ f u v
  | [], _, _, _, _, h, _ => by simp at h
  | _ :: _, [], _, _, _, _, h => by simp at h
  | x :: a, y :: b, 0, u, v, hu, hv => by
    simp at hu hv; subst hu; subst hv
    simp [zf]
  | x :: a, y :: b, j + 1, u, v, hu, hv => by
    simp only [List.getElem?_cons_succ] at hu hv
    simp only [List.take_succ_cons, zf, List.append_assoc]
    rw [← zf_next a b j u v hu hv]
theorem zf_take_le {α β : Type} {f : α → α → List β} : ∀ (a b : List α) (j : Nat), (zf f (a.take j) (b.take j)).length ≤ (zf f a b).length
  | [], _, _ => by simp [zf]
  | _ :: _, [], _ => by simp [zf]
  | x :: a, y :: b, 0 => by simp [zf]
  | x :: a, y :: b, j + 1 => by
    have := zf_take_le (f := f) a b j
    simp only [List.take_succ_cons, zf, List.length_append]
    omega
theorem grb_cells {X : Nat → Prop} {A W : World} (h : GrB X A.heap.size A W) : ∀ k o, k < A.heap.size → ¬ X k → W.cell? ⟨k, o, none⟩ = A.cell? ⟨k, o, none⟩ := fun _ _ hk hx => h.cell hk hx
theorem prs_len : ∀ {n : Nat} (a b : Tm n), (prs a b).length ≤ (code a).length
  | 0, a, _ => Empty.elim a
  | n + 1, a, b => by
    rw [code_kids, List.length_cons]
    cases hap : apart a.tv b.tv with
    | true => rw [prs_apart hap]; simp
    | false =>
      rw [prs_like hap]
      have key : ∀ (l r : List (Tm n)), (zf prs l r).length ≤ (l.flatMap code).length := by
        intro l
        induction l with
        | nil => intro r; cases r <;> simp [zf]
        | cons u l ih =>
          intro r
          cases r with
          | nil => simp [zf]
          | cons v r =>
            have h1 := prs_len u v
            have h2 := ih r
            simp only [zf, List.length_append, List.flatMap_cons]
            omega
      have := key a.kids b.kids
      omega
/-- One slot more, where a state's blocks may have changed. -/
theorem Written.nextX {X : Nat → Prop} {D B j lo : Nat} {W W5 : World} {c c' : List Nd} {len : Nat} {x : TV} (h : Written D B j W c) (hj : j < len) (hr : Row4 W5 B len) (hb : GrB X W.heap.size W W5) (hX : ∀ k, X k → k < B) (hB : B < W.heap.size) (hv : HoldsT D lo W5 x.val c') (hlo : W.heap.size ≤ lo) :
    Written D B (j + 1) (Proofs.YtcjeeagnfmipgaaGreatDoor.set4 W5 B (j * 4) x) (c ++ c') := fun M hM => by
  obtain ⟨ks, hl, hk, hc, hnd⟩ := h M hM
  obtain ⟨u, hu, hT, hN0, hcu⟩ := hv M hM
  have hN : NewW (B + 1) W5 u := hN0.mono (by omega)
  have hux : u.tv = x := by
    simp only [TV.val, Value.agg.injEq] at hu
    simp at hu
    obtain ⟨e1, e2, e3, e4, e5, e6⟩ := hu
    cases hx : u.tv; cases x; simp_all
  refine ⟨ks ++ [u], by simp [hl], fun i z hz => ?_, by simp [hc, hcu], kids_apart (fun i z hz => (hk i z hz).2.2) hnd hN0 hlo⟩
  by_cases hi : i < j
  · rw [List.getElem?_append_left (by omega)] at hz
    obtain ⟨k1, k2, k3⟩ := hk i z hz
    have k1' := k1.kept (hb.block B hB (fun hx => by have := hX B hx; omega))
    refine ⟨?_, ?_, (k3.kept (fun b hb' hlt => hb.block b hlt (fun hx => by have := hX b hx; omega))).kept (fun q hq _ => set4_other W5 B (j * 4) x (by omega))⟩
    · exact ⟨(set4_far W5 B (j * 4) x (by omega)).trans k1'.1, (set4_far W5 B (j * 4) x (by omega)).trans k1'.2.1, (set4_far W5 B (j * 4) x (by omega)).trans k1'.2.2.1, (set4_far W5 B (j * 4) x (by omega)).trans k1'.2.2.2⟩
    · rw [set4_size]
      exact (k2.grb hb (fun k hx => by have := hX k hx; omega) k3.new).from (fun q hq => set4_other W5 B (j * 4) x (by omega)) k3.new
  · rw [List.getElem?_append_right (by omega)] at hz
    have hi2 : i - ks.length = 0 := by
      by_cases e : i - ks.length = 0
      · exact e
      · rw [List.getElem?_eq_none (by simp; omega)] at hz; cases hz
    rw [hi2] at hz
    simp at hz
    subst hz
    obtain rfl : i = j := by omega
    refine ⟨?_, ?_, hN.kept (fun q hq _ => set4_other W5 B (i * 4) x (by omega))⟩
    · rw [hux]
      have g : ∀ q, q < len * 4 → (W5.cell? ⟨B, q, none⟩).isSome = true := fun q hq => by obtain ⟨⟨v, hv⟩, _⟩ := hr.cell hq; rw [hv]; rfl
      exact set4_cells W5 B (i * 4) x (g _ (by omega)) (g _ (by omega)) (g _ (by omega)) (g _ (by omega))
    · rw [set4_size]
      exact hT.from (fun q hq => set4_other W5 B (i * 4) x (by omega)) hN.new

/-- The end of a compound, wherever its row lies. -/
theorem comp_endG {X : Nat → Prop} {D : Nat} {W wr : World} {s : ByteArray} {len rb rc : Nat} {c : List Nd} (hB : GrB X W.heap.size W wr) (hs : s.size ≤ 9223372036854775807) (hl : len ≤ 50) (hrc : W.heap.size ≤ rc) (hrb : rc < rb) (hr : Row4 wr rb len) (hw : Written D rb len wr c) :
    let x : TV := ⟨4, 0, s, some ⟨rb, 0, none⟩, len, len⟩
    GrB X W.heap.size W (set4 wr rc 0 x) ∧ HoldsT (D + 1) W.heap.size (set4 wr rc 0 x) x.val ((4, 0, s.toList, len) :: c) := by
  intro x
  exact ⟨hB.set4 hrc 0 x, (holds_set4 (comp_holds hs hl hr hw (Nat.le_refl rb)) hrb 0 x).mono (Nat.le_refl _) (by omega)⟩

theorem kid_grb {n n₀ : Nat} {w wr : World} {a : Option Addr} {len : Nat} {kids : List (Tm n)} (hkids : kids = [] ∨ ∃ b off, a = some ⟨b, off, none⟩ ∧ b < n₀ ∧ ∀ j u, kids[j]? = some u → cellsAt w b (off + j * 4) u.tv ∧ IsT n₀ w u)
    (hbw : Below n₀ w wr) {j : Nat} (hj : j < len) (hl : len ≤ kids.length) :
    ∃ u b off, kids[j]? = some u ∧ a = some ⟨b, off, none⟩ ∧ cellsAt wr b (off + j * 4) u.tv ∧ IsT n₀ wr u ∧ b < n₀ := by
  obtain ⟨u, hu⟩ : ∃ u, kids[j]? = some u := ⟨kids[j]'(by omega), List.getElem?_eq_getElem (by omega)⟩
  have hne : kids ≠ [] := by rintro rfl; simp at hu
  obtain ⟨b, off, ha, hbk, hk⟩ := hkids.resolve_left hne
  obtain ⟨⟨c0, c1, c2, c3⟩, hT⟩ := hk j u hu
  exact ⟨u, b, off, hu, ha, ⟨(hbw.cell (p := ⟨b, off + j * 4, none⟩) hbk).trans c0, (hbw.cell (p := ⟨b, off + j * 4 + 1, none⟩) hbk).trans c1, (hbw.cell (p := ⟨b, off + j * 4 + 2, none⟩) hbk).trans c2, (hbw.cell (p := ⟨b, off + j * 4 + 3, none⟩) hbk).trans c3⟩, hT.below hbw, hbk⟩

/-- Where generalize's function value leads, and what it keeps. -/
structure Sta (n₀ gb mb : Nat) (W : World) : Prop where
  low : n₀ ≤ mb
  ne : mb ≠ gb
  gb : gb < W.heap.size
  mb : mb < W.heap.size
theorem Sta.up {n₀ gb mb : Nat} {W W' : World} (h : Sta n₀ gb mb W) (hs : W.heap.size ≤ W'.heap.size) : Sta n₀ gb mb W' := ⟨h.low, h.ne, by have := h.gb; omega, by have := h.mb; omega⟩
/-- What generalize says of two terms. -/
def GenSays {n : Nat} (n₀ gb mb : Nat) (a b : Tm n) (ps : List Pr) (W : World) (e : Ending) (W' : World) : Prop :=
  ∃ x : TV, e = .returned x.val ∧ GrB (fun k => k = mb) W.heap.size W W' ∧ Si n₀ gb mb (stepsP ps (prs a b)) W' ∧ HoldsT (n + 1) W.heap.size W' x.val (Gc (ιP (stepsP ps (prs a b))) a b)

set_option maxRecDepth 100000 in
set_option maxHeartbeats 1000000 in
/-- Nothing in common: what stands for the two. -/
theorem gen_apart {n n₀ gb mb : Nat} (a b : Tm (n + 1)) (ps : List Pr) (W : World) (hS : Sta n₀ gb mb W) (hI : Si n₀ gb mb ps W) (ha : IsT n₀ W a) (hb : IsT n₀ W b) (pa : ∀ x ∈ parts a, Pw x) (pb : ∀ x ∈ parts b, Pw x) (hla : (parts a).length ≤ 1000000000) (hlb : (parts b).length ≤ 1000000000) (hps : ps.length ≤ 1000000000) (hap : apart a.tv b.tv = true) :
    Calls Tryz.prog 63 #[a.tv.val, b.tv.val, .func (.func 64) #[] #[.pointer (some ⟨gb, 0, none⟩)]] W fun e W' => GenSays n₀ gb mb a b ps W e W' := by
  have hlow := hS.low
  have hgb := hS.gb
  have hmb := hS.mb
  obtain ⟨W3, hW3, hB3, hba, hbb, hbz, hs3⟩ := three_new W a.tv b.tv
  have hot : Calls Tryz.prog 91 #[a.tv.val, b.tv.val] W3 fun e W4 => e = .returned (.int .i64 (otop a.tv b.tv)) ∧ Below W3.heap.size W3 W4 := otop_any a.tv b.tv W3
  have hst : ∀ W4, Below W3.heap.size W3 W4 → Calls Tryz.prog 64 #[a.tv.val, b.tv.val, .pointer (some ⟨gb, 0, none⟩)] W4 fun e W5 => e = .returned (varV ((stpP ps (code a, code b)).idxOf (code a, code b) : Nat)).val ∧ GrB (fun k => k = mb) W4.heap.size W4 W5 ∧ Si n₀ gb mb (stpP ps (code a, code b)) W5 := fun W4 hb4 => by
    have hbw : Below W.heap.size W W4 := hB3.trans (hb4.mono (by omega))
    exact stand_any a b ps W4 hS.low ⟨by have := hbw.size; omega, by have := hbw.size; omega⟩ hS.ne (si_keep (lo := W.heap.size) (by omega) hgb hmb hI hbw) (ha.below (hbw.mono (by omega))) (hb.below (hbw.mono (by omega))) pa pb hla hlb hps
  have eg := enters_of Tryz.func64 (by kernel_rfl) rfl
  have hgen : prs a b = [(code a, code b)] := prs_apart hap
  have hcode : ∀ ι, Gc ι a b = [varNd (ι (code a, code b))] := fun ι => Gc_apart hap
  have hsp : stepsP ps (prs a b) = stpP ps (code a, code b) := by rw [hgen]; rfl
  have hfin : ∀ (W5 : World), Below W3.heap.size W3 W5 → ∀ W6, GrB (fun k => k = mb) W5.heap.size W5 W6 → Si n₀ gb mb (stpP ps (code a, code b)) W6 → GenSays n₀ gb mb a b ps W (.returned (varV ((stpP ps (code a, code b)).idxOf (code a, code b) : Nat)).val) (set4 W6 (W.heap.size + 2) 0 (varV ((stpP ps (code a, code b)).idxOf (code a, code b) : Nat))) := fun W5 hb5 W6 hg6 hI6 => by
    have h5 := hb5.size
    have h6 := hg6.size
    refine ⟨_, rfl, (((GrB.of_below hB3).trans (GrB.of_below (hb5.mono (by omega)))).trans (hg6.mono (by omega))).set4 (by omega) 0 _, ?_, ?_⟩
    · rw [hsp]; exact si_keep (lo := W.heap.size) (by omega) hgb hmb hI6 (set4_below (Below.refl _ _) (by omega) 0 _)
    · rw [hsp, hcode]; exact (varV_holds _ _ _).mono (by omega) (Nat.le_refl _)
  have a0 := hba.c0
  have a1 := hba.c1
  have a2 := hba.c2
  have a3 := hba.c3
  have b0 := hbb.c0
  have b1 := hbb.c1
  have b2 := hbb.c2
  have b3 := hbb.c3
  have HBA := hide hba
  have HBB := hide hbb
  have HBZ := hide hbz
  have HST := hide hst
  have HFIN := hide hfin
  simp only [TV.val] at hot ⊢
  clear hI ha hb pa pb hgen hcode hsp hba hbb hbz hst hfin
  generalize hp : ((code a, code b) : Pr) = p at HST HFIN
  clear hp
  have hzero := @otop_zero a.tv b.tv
  by_cases hk : a.tv.k = 1
  · have hk1 : (a.tv.k == 1) = true := by simp [hk]
    have hs := (unhide HST) W3 (Below.refl _ _)
    simp only [TV.val] at hs
    clear hk hap hot
    go_enter Tryz.func63, Tryz.ntmps63
    go_wp2_with fail
    refine hs.mono ?_
    clear hs
    rintro e W5 ⟨rfl, hg5, hI5⟩
    have hbz5 : BoxT W5 (W.heap.size + 2) ⟨0, 0, ⟨#[]⟩, none, 0, 0⟩ := (hg5.block _ (by omega) (by omega)).trans (unhide HBZ)
    obtain ⟨⟨z0, z1, z2, z3⟩, y0, y1, y2, y3⟩ := zbox_kept hbz5
    have hf := (unhide HFIN) W3 (Below.refl _ _) W5 hg5 hI5
    have HF := hide hf
    clear hf hg5 hI5 hbz5
    generalize ((stpP ps p).idxOf p : Nat) = M at HF ⊢
    simp only [varV]
    go_wp2_with fail
    exact bodyPost_ret (v := (varV (M : Nat)).val) (by simp [results, Tryz.results63, go_sem, TV.val, varV, z0, z1, z2, z3]) rfl (unhide HF)
  · have hk1 : (a.tv.k == 1) = false := by simp [hk]
    have ho : otop a.tv b.tv ≠ 0 := fun h => by
      have h1 := hzero.1 h
      simp [apart, hk, h1] at hap
    have ho' : (otop a.tv b.tv != 0) = true := by simp [ho]
    generalize otop a.tv b.tv = o at hot ho'
    clear hk hap hzero ho
    go_enter Tryz.func63, Tryz.ntmps63
    go_wp2_with fail
    refine hot.mono ?_
    clear hot a0 a1 a2 a3 b0 b1 b2 b3
    rintro e W4 ⟨rfl, hb4⟩
    have hba4 := (unhide HBA).kept hb4
    have hbb4 := (unhide HBB).kept hb4
    have a0 := hba4.c0
    have a1 := hba4.c1
    have a2 := hba4.c2
    have a3 := hba4.c3
    have b0 := hbb4.c0
    have b1 := hbb4.c1
    have b2 := hbb4.c2
    have b3 := hbb4.c3
    have hs := (unhide HST) W4 hb4
    simp only [TV.val] at hs
    go_wp2_with fail
    refine hs.mono ?_
    clear hs a0 a1 a2 a3 b0 b1 b2 b3
    rintro e W5 ⟨rfl, hg5, hI5⟩
    have hbz5 : BoxT W5 (W.heap.size + 2) ⟨0, 0, ⟨#[]⟩, none, 0, 0⟩ := (hg5.block _ (by have := hb4.size; omega) (by omega)).trans ((hb4.block _ (by omega)).trans (unhide HBZ))
    obtain ⟨⟨z0, z1, z2, z3⟩, y0, y1, y2, y3⟩ := zbox_kept hbz5
    have hf := (unhide HFIN) W4 hb4 W5 hg5 hI5
    have HF := hide hf
    clear hf hg5 hI5 hbz5 hba4 hbb4
    generalize ((stpP ps p).idxOf p : Nat) = M at HF ⊢
    simp only [varV]
    go_wp2_with fail
    exact bodyPost_ret (v := (varV (M : Nat)).val) (by simp [results, Tryz.results63, go_sem, TV.val, varV, z0, z1, z2, z3]) rfl (unhide HF)

set_option maxRecDepth 100000 in
set_option maxHeartbeats 1000000 in
/-- A leaf that both have. -/
theorem gen_leaf {n n₀ gb mb : Nat} (a b : Tm (n + 1)) (ps : List Pr) (W : World) (fv : Value) (hS : Sta n₀ gb mb W) (hI : Si n₀ gb mb ps W) (ha : IsT n₀ W a) (oka : okT a = true) (hap : apart a.tv b.tv = false) (hk4 : ¬ a.tv.k = 4) (hnil : a.kids = []) :
    Calls Tryz.prog 63 #[a.tv.val, b.tv.val, fv] W fun e W' => GenSays n₀ gb mb a b ps W e W' := by
  have hlow := hS.low
  have hgb := hS.gb
  have hmb := hS.mb
  obtain ⟨W3, hW3, hB3, hba, hbb, hbz, hs3⟩ := three_new W a.tv b.tv
  have hot : Calls Tryz.prog 91 #[a.tv.val, b.tv.val] W3 fun e W4 => e = .returned (.int .i64 (otop a.tv b.tv)) ∧ Below W3.heap.size W3 W4 := otop_any a.tv b.tv W3
  obtain ⟨hk1, hnd⟩ := apart_no hap
  have ho : otop a.tv b.tv = 0 := otop_zero.2 (nd_stop.1 hnd)
  rw [ho] at hot
  have hcp : ∀ W4, Below W3.heap.size W3 W4 → Calls Tryz.prog 68 #[a.tv.val] W4 fun e W5 => ∃ x : TV, e = .returned x.val ∧ Below W4.heap.size W4 W5 ∧ HoldsT (n + 1 + 1) W4.heap.size W5 x.val (code a) := fun W4 hb4 => by
    have hbw : Below W.heap.size W W4 := hB3.trans (hb4.mono (by omega))
    exact copy_any a W4 ((ha.below (hbw.mono (by omega))).mono (by have := hbw.size; omega)) oka
  have hprs : prs a b = [] := by rw [prs_like hap, hnil]; cases b.kids <;> rfl
  have hGc : ∀ ι, Gc ι a b = code a := fun ι => by rw [Gc_like hap, hnil, code_kids, hnil]; cases b.kids <;> rfl
  have hfin : ∀ (W4 : World), Below W3.heap.size W3 W4 → ∀ (W5 : World) (x : TV), Below W4.heap.size W4 W5 → HoldsT (n + 1 + 1) W4.heap.size W5 x.val (code a) → GenSays n₀ gb mb a b ps W (.returned x.val) (set4 W5 (W.heap.size + 2) 0 x) := fun W4 hb4 W5 x hb5 hx => by
    have h4 := hb4.size
    have hbw : Below W.heap.size W W5 := (hB3.trans (hb4.mono (by omega))).trans (hb5.mono (by omega))
    refine ⟨x, rfl, (GrB.of_below hbw).set4 (by omega) 0 _, ?_, ?_⟩
    · rw [hprs]; exact si_keep (lo := W.heap.size) (by omega) hgb hmb hI (hbw.trans (set4_below (Below.refl _ _) (by omega) 0 _))
    · rw [hGc]; exact (holds_set4 hx (by omega) 0 x).mono (Nat.le_refl _) (by omega)
  have a0 := hba.c0
  have a1 := hba.c1
  have a2 := hba.c2
  have a3 := hba.c3
  have b0 := hbb.c0
  have b1 := hbb.c1
  have b2 := hbb.c2
  have b3 := hbb.c3
  have hg1 : (a.tv.k == 1) = false := by simp [hk1]
  have hg4 : (a.tv.k != 4) = true := by simp [hk4]
  have HBA := hide hba
  have HBZ := hide hbz
  have HCP := hide hcp
  have HFIN := hide hfin
  simp only [TV.val] at hot ⊢
  clear hI ha oka hap hk4 hk1 hnil hnd ho hprs hGc hba hbb hbz hcp hfin
  go_enter Tryz.func63, Tryz.ntmps63
  go_wp2_with fail
  refine hot.mono ?_
  clear hot a0 a1 a2 a3 b0 b1 b2 b3
  rintro e W4 ⟨rfl, hb4⟩
  have hba4 := (unhide HBA).kept hb4
  have a0 := hba4.c0
  have a1 := hba4.c1
  have a2 := hba4.c2
  have a3 := hba4.c3
  have hc := (unhide HCP) W4 hb4
  simp only [TV.val] at hc
  go_wp2_with fail
  refine hc.mono ?_
  clear hc a0 a1 a2 a3
  rintro e W5 ⟨x, rfl, hb5, hx⟩
  have hbz5 : BoxT W5 (W.heap.size + 2) ⟨0, 0, ⟨#[]⟩, none, 0, 0⟩ := (hb5.block _ (by have := hb4.size; omega)).trans ((hb4.block _ (by omega)).trans (unhide HBZ))
  obtain ⟨⟨z0, z1, z2, z3⟩, y0, y1, y2, y3⟩ := zbox_kept hbz5
  have hf := (unhide HFIN) W4 hb4 W5 x hb5 hx
  have HF := hide hf
  clear hf hb5 hx hbz5 hba4
  go_wp2_with fail
  exact bodyPost_ret (v := x.val) (by simp [results, Tryz.results63, go_sem, TV.val, z0, z1, z2, z3]) rfl (unhide HF)

set_option maxRecDepth 100000 in
set_option maxHeartbeats 2000000 in
/-- A compound of the same name and size. -/
theorem gen_comp {n n₀ gb mb : Nat} (fv : Value)
    (ih : ∀ (u v : Tm n) (ps : List Pr) (W : World), Sta n₀ gb mb W → Si n₀ gb mb ps W → IsT n₀ W u → IsT n₀ W v → okT u = true → (∀ x ∈ parts u, Pw x) → (∀ x ∈ parts v, Pw x) → (parts u).length ≤ 1000000000 → (parts v).length ≤ 1000000000 → ps.length + (prs u v).length ≤ 1000000000 → Calls Tryz.prog 63 #[u.tv.val, v.tv.val, fv] W fun e W' => GenSays n₀ gb mb u v ps W e W')
    (s : ByteArray) (aa : Option Addr) (len cap : Nat) (kids : List (Tm n)) (k' N' : Int) (s' : ByteArray) (aa' : Option Addr) (len' cap' : Nat) (kids' : List (Tm n)) (ps : List Pr) (W : World) (hS : Sta n₀ gb mb W) (hI : Si n₀ gb mb ps W)
    (hs : s.size ≤ 9223372036854775807) (hl50 : len ≤ 50) (hlen : len = kids.length) (hlen' : len = kids'.length) (hll : len = len')
    (hkids : kids = [] ∨ ∃ b off, aa = some ⟨b, off, none⟩ ∧ b < n₀ ∧ ∀ j u, kids[j]? = some u → cellsAt W b (off + j * 4) u.tv ∧ IsT n₀ W u)
    (hkids' : kids' = [] ∨ ∃ b off, aa' = some ⟨b, off, none⟩ ∧ b < n₀ ∧ ∀ j u, kids'[j]? = some u → cellsAt W b (off + j * 4) u.tv ∧ IsT n₀ W u)
    (hok : ∀ u ∈ kids, okT u = true) (pk : ∀ u ∈ kids, ∀ x ∈ parts u, Pw x) (pk' : ∀ u ∈ kids', ∀ x ∈ parts u, Pw x) (lk : ∀ u ∈ kids, (parts u).length ≤ 1000000000) (lk' : ∀ u ∈ kids', (parts u).length ≤ 1000000000)
    (hps : ps.length + (zf prs kids kids').length ≤ 1000000000) (ho : otop ⟨4, 0, s, aa, len, cap⟩ ⟨k', N', s', aa', len', cap'⟩ = 0) :
    Calls Tryz.prog 63 #[.agg #[.int .i64 4, .int .i64 0, .string s, .slice aa len cap], .agg #[.int .i64 k', .int .i64 N', .string s', .slice aa' len' cap'], fv] W fun e W' =>
      ∃ x : TV, e = .returned x.val ∧ GrB (fun k => k = mb) W.heap.size W W' ∧ Si n₀ gb mb (stepsP ps (zf prs kids kids')) W' ∧ HoldsT (n + 1 + 1) W.heap.size W' x.val ((4, 0, s.toList, len) :: zf (Gc (ιP (stepsP ps (zf prs kids kids')))) kids kids') := by
  have hl1 : len ≤ kids.length := by omega
  have hl2 : kids.length ≤ len := by omega
  have hl3 : len ≤ kids'.length := by omega
  have hl4 : kids'.length ≤ len := by omega
  have hl5 : (len : Int) ≤ len' := by omega
  clear hlen hlen' hll
  have hlow := hS.low
  have hgb := hS.gb
  have hmb := hS.mb
  obtain ⟨W3, hW3, hB3, hba, hbb, hbz, hs3⟩ := three_new W ⟨4, 0, s, aa, len, cap⟩ ⟨k', N', s', aa', len', cap'⟩
  have hot : Calls Tryz.prog 91 #[(⟨4, 0, s, aa, len, cap⟩ : TV).val, (⟨k', N', s', aa', len', cap'⟩ : TV).val] W3 fun e W4 => e = .returned (.int .i64 (otop ⟨4, 0, s, aa, len, cap⟩ ⟨k', N', s', aa', len', cap'⟩)) ∧ Below W3.heap.size W3 W4 := otop_any _ _ W3
  rw [ho] at hot
  have a0 := hba.c0
  have a1 := hba.c1
  have a2 := hba.c2
  have a3 := hba.c3
  have b0 := hbb.c0
  have b1 := hbb.c1
  have b2 := hbb.c2
  have b3 := hbb.c3
  simp only [TV.val] at hot a0 a1 a2 a3 b0 b1 b2 b3
  have HIH := hide ih
  have HO := hide hok
  have HPK := hide (And.intro pk (And.intro pk' (And.intro lk lk')))
  have HI := hide hI
  have HS := hide hS
  have HBA := hide hba
  have HBB := hide hbb
  have HBZ := hide hbz
  have hmk := make_terms len hl50
  clear ih hok pk pk' lk lk' hI hS hba hbb hbz ho
  go_enter Tryz.func63, Tryz.ntmps63
  go_wp2_with fail
  refine hot.mono ?_
  clear hot a0 a1 a2 a3 b0 b1 b2 b3
  rintro e W4 ⟨rfl, hb4⟩
  have hba4 := (unhide HBA).kept hb4
  have a0 := hba4.c0
  have a3 := hba4.c3
  simp only at a0 a3
  go_wp2_with fail
  have hs4 := hb4.size
  have hB5 : Below W4.heap.size W4 (W4.alloc (.cells (madeCells #[.int .i64 0, .int .i64 0, .string ⟨#[]⟩, .slice none 0 0] (len * 4)) 24)) := (Below.refl _ W4).alloc (Nat.le_refl _) _
  have hrow5 : Row4 (W4.alloc (.cells (madeCells #[.int .i64 0, .int .i64 0, .string ⟨#[]⟩, .slice none 0 0] (len * 4)) 24)) W4.heap.size len := ⟨_, World.alloc_heap_new W4 _, size_madeCells _ _⟩
  have hs5 : (W4.alloc (.cells (madeCells #[.int .i64 0, .int .i64 0, .string ⟨#[]⟩, .slice none 0 0] (len * 4)) 24)).heap.size = W4.heap.size + 1 := by simp
  obtain ⟨W5, hW5⟩ : ∃ W5, W4.alloc (.cells (madeCells #[.int .i64 0, .int .i64 0, .string ⟨#[]⟩, .slice none 0 0] (len * 4)) 24) = W5 := ⟨_, rfl⟩
  rw [hW5] at hB5 hrow5 hs5 ⊢
  clear hW5 hmk
  have hBW5 : Below W.heap.size W W5 := (hB3.trans (hb4.mono (by omega))).trans (hB5.mono (by omega))
  have hbz5 : BoxT W5 (W.heap.size + 2) ⟨0, 0, ⟨#[]⟩, none, 0, 0⟩ := (hB5.block _ (by omega)).trans ((hb4.block _ (by omega)).trans (unhide HBZ))
  have hba5 := (hB5.block _ hba4.lt).trans hba4
  have hbb5 : BoxT W5 (W.heap.size + 1) ⟨k', N', s', aa', len', cap'⟩ := (hB5.block _ (by omega)).trans ((hb4.block _ (by omega)).trans (unhide HBB))
  have HBZ5 := hide hbz5
  have HBA5 := hide (show BoxT W5 W.heap.size ⟨4, 0, s, aa, len, cap⟩ from hba5)
  have HBB5 := hide hbb5
  have HR5 := hide hrow5
  clear hbz5 hba5 hbb5 hrow5 HBZ HBA HBB a0 a3 hba4
  go_loopw [33] (fun i wr => ∃ j : Nat, j ≤ len ∧ i = .int .i64 j ∧ GrB (fun k => k = mb) W4.heap.size W5 wr ∧ Row4 wr W4.heap.size len ∧ Si n₀ gb mb (stepsP ps (zf prs (kids.take j) (kids'.take j))) wr ∧ Written (n + 1) W4.heap.size j wr (zf (Gc (ιP (stepsP ps (zf prs (kids.take j) (kids'.take j))))) (kids.take j) (kids'.take j))) (fun i _ => len - (intOf i).toNat)
  case atStart => exact ⟨0, Nat.zero_le _, rfl, GrB.refl _ _ _, unhide HR5, si_keep (lo := W.heap.size) (by omega) hgb hmb (unhide HI) hBW5, Written.zero _ _ _⟩
  case round =>
    obtain ⟨j, hj, rfl, hg, hrow, hIj, hwr⟩ := hrel
    have hgw : GrB (fun k => k = mb) W.heap.size W wr := (GrB.of_below hBW5).trans (hg.mono (by omega))
    have hbw : Below n₀ W wr := hgw.below (fun k hx => by omega) (by omega)
    have hsz : W4.heap.size + 1 ≤ wr.heap.size := by have := hg.size; omega
    by_cases hlt : j < len
    · obtain ⟨u, bk, off, hu, rfl, ⟨c0, c1, c2, c3⟩, hT, hbk⟩ := kid_grb hkids hbw hlt hl1
      obtain ⟨v, bk', off', hv, rfl, ⟨d0, d1, d2, d3⟩, hT', hbk'⟩ := kid_grb hkids' hbw hlt hl3
      have hne1 : W.heap.size ≠ mb := by omega
      have hne2 : W.heap.size + 1 ≠ mb := by omega
      have hne3 : bk ≠ mb := by omega
      have hne4 : bk' ≠ mb := by omega
      have hcc : wr.cell? ⟨W.heap.size, 3, none⟩ = some (.slice (some ⟨bk, off, none⟩) len cap) := (hg.cell (by omega) hne1).trans (unhide HBA5).c3
      have hcd : wr.cell? ⟨W.heap.size + 1, 3, none⟩ = some (.slice (some ⟨bk', off', none⟩) len' cap') := (hg.cell (by omega) hne2).trans (unhide HBB5).c3
      have hj1 : (j : Int) < len := by omega
      have hj2 : (j : Int) < len' := by omega
      have hdr : Below wr.heap.size wr wr.drew := (Below.refl _ wr).drew
      have hzn := zf_next (f := prs) kids kids' j u v hu hv
      have hzl : (zf prs (kids.take j) (kids'.take j)).length + (prs u v).length ≤ (zf prs kids kids').length := by
        have h1 := zf_take_le (f := prs) kids kids' (j + 1)
        rw [hzn, List.length_append] at h1
        exact h1
      have hpl : (stepsP ps (zf prs (kids.take j) (kids'.take j))).length + (prs u v).length ≤ 1000000000 := by
        obtain ⟨dd, hd1, hd2⟩ := stepsP_ext (zf prs (kids.take j) (kids'.take j)) ps
        rw [hd1, List.length_append]
        omega
      have hmu := List.mem_of_getElem? hu
      have hmv := List.mem_of_getElem? hv
      have ihu : Calls Tryz.prog 63 #[.agg #[.int .i64 u.tv.k, .int .i64 u.tv.N, .string u.tv.s, .slice u.tv.a u.tv.len u.tv.cap], .agg #[.int .i64 v.tv.k, .int .i64 v.tv.N, .string v.tv.s, .slice v.tv.a v.tv.len v.tv.cap], fv] wr.drew fun e W6 => ∃ x : TV, e = .returned x.val ∧ GrB (fun k => k = mb) wr.heap.size wr W6 ∧ Si n₀ gb mb (stepsP ps (zf prs (kids.take (j + 1)) (kids'.take (j + 1)))) W6 ∧ HoldsT (n + 1) wr.heap.size W6 x.val (Gc (ιP (stepsP ps (zf prs (kids.take (j + 1)) (kids'.take (j + 1))))) u v) := by
        refine ((unhide HIH) u v (stepsP ps (zf prs (kids.take j) (kids'.take j))) wr.drew ((unhide HS).up (Nat.le_trans hgw.size hdr.size)) (si_keep (lo := wr.heap.size) (by omega) (by omega) (by omega) hIj hdr) (hT.below (hdr.mono (by omega))) (hT'.below (hdr.mono (by omega))) ((unhide HO) u hmu) ((unhide HPK).1 u hmu) ((unhide HPK).2.1 v hmv) ((unhide HPK).2.2.1 u hmu) ((unhide HPK).2.2.2 v hmv) hpl).mono fun e W6 h => ?_
        obtain ⟨x, e1, e2, e3, e4⟩ := h
        rw [← stepsP_append, ← hzn] at e3 e4
        exact ⟨x, e1, (GrB.of_below hdr).trans e2, e3, e4⟩
      have hGn : zf (Gc (ιP (stepsP ps (zf prs (kids.take (j + 1)) (kids'.take (j + 1)))))) (kids.take (j + 1)) (kids'.take (j + 1)) = zf (Gc (ιP (stepsP ps (zf prs (kids.take j) (kids'.take j))))) (kids.take j) (kids'.take j) ++ Gc (ιP (stepsP ps (zf prs (kids.take (j + 1)) (kids'.take (j + 1))))) u v := by
        rw [zf_next kids kids' j u v hu hv]
        congr 1
        refine zf_congr _ _ fun p hp => ?_
        rw [hzn, stepsP_append, ιP_stay (stepsP_mem _ _ p hp)]
      have HGN := hide hGn
      have HW := hide hwr
      have HRW := hide hrow
      have hy1 : W.heap.size < wr.heap.size := by omega
      have hy2 : W.heap.size + 1 < wr.heap.size := by omega
      have hy3 : bk < wr.heap.size := by omega
      have hy4 : bk' < wr.heap.size := by omega
      have hq1 : W4.heap.size ≠ W.heap.size := by omega
      have hq2 : W4.heap.size ≠ W.heap.size + 1 := by omega
      have hq3 : W4.heap.size ≠ bk := by omega
      have hq4 : W4.heap.size ≠ bk' := by omega
      have hrl := hrow.lt
      clear hT hT' hkids hkids' hu hv hwr hrow hIj hzn hzl hpl hmu hmv hGn hdr
      simp only [TV.val] at ihu
      go_wp2_with fail
      go_region_held3 (fun w' => w'.cell? ⟨W.heap.size, 3, none⟩ = some (.slice (some ⟨bk, off, none⟩) len cap) ∧ w'.cell? ⟨W.heap.size + 1, 3, none⟩ = some (.slice (some ⟨bk', off', none⟩) len' cap')
        ∧ w'.cell? ⟨bk, off + j * 4, none⟩ = some (.int .i64 u.tv.k) ∧ w'.cell? ⟨bk, off + j * 4 + 1, none⟩ = some (.int .i64 u.tv.N) ∧ w'.cell? ⟨bk, off + j * 4 + 2, none⟩ = some (.string u.tv.s) ∧ w'.cell? ⟨bk, off + j * 4 + 3, none⟩ = some (.slice u.tv.a u.tv.len u.tv.cap)
        ∧ w'.cell? ⟨bk', off' + j * 4, none⟩ = some (.int .i64 v.tv.k) ∧ w'.cell? ⟨bk', off' + j * 4 + 1, none⟩ = some (.int .i64 v.tv.N) ∧ w'.cell? ⟨bk', off' + j * 4 + 2, none⟩ = some (.string v.tv.s) ∧ w'.cell? ⟨bk', off' + j * 4 + 3, none⟩ = some (.slice v.tv.a v.tv.len v.tv.cap)) (go_keep)
        (first | (go_at_call 63; refine ihu.mono ?_; clear ihu; rintro e W6 ⟨x, rfl, hg6, hI6, hx6⟩; have hbc := grb_cells hg6; have hrow6 := (unhide HRW).kept (hg6.block _ hrl (by omega)); obtain ⟨⟨_, z0⟩, y0⟩ := hrow6.cell (o := j * 4) (by omega); obtain ⟨⟨_, z1⟩, y1⟩ := hrow6.cell (o := j * 4 + 1) (by omega); obtain ⟨⟨_, z2⟩, y2⟩ := hrow6.cell (o := j * 4 + 2) (by omega); obtain ⟨⟨_, z3⟩, y3⟩ := hrow6.cell (o := j * 4 + 3) (by omega)))
      have hs6 := hg6.size
      have hfin := (unhide HW).nextX hlt hrow6 hg6 (fun k hx => by omega) hrl hx6 (by omega)
      rw [← unhide HGN] at hfin
      have hfin2 := hrow6.set4 (j * 4) x
      have hfin3 : GrB (fun k => k = mb) W4.heap.size W5 (set4 W6 W4.heap.size (j * 4) x) := (hg.trans (hg6.mono (by omega))).set4 (Nat.le_refl _) _ _
      have hfin4 : Si n₀ gb mb (stepsP ps (zf prs (kids.take (j + 1)) (kids'.take (j + 1)))) (set4 W6 W4.heap.size (j * 4) x) := si_keep (lo := W.heap.size) (by omega) hgb hmb hI6 (set4_below (Below.refl _ _) (by omega) _ _)
      have G1 := hide hfin
      have G2 := hide hfin2
      have G3 := hide hfin3
      have G4 := hide hfin4
      clear hfin hfin2 hfin3 hfin4 hx6 hI6 hrow6 hbc
      go_wp2_with fail
      go_roundw
      case rel => exact ⟨j + 1, by omega, by go_num, unhide G3, unhide G2, unhide G4, unhide G1⟩
      case measure => simp [intOf]; omega
    · have ht : kids.take j = kids := List.take_of_length_le (by omega)
      have ht' : kids'.take j = kids' := List.take_of_length_le (by omega)
      obtain rfl : j = len := by omega
      rw [ht, ht'] at hwr hIj
      have hbz : BoxT wr (W.heap.size + 2) ⟨0, 0, ⟨#[]⟩, none, 0, 0⟩ := (hg.block _ (by omega) (by omega)).trans (unhide HBZ5)
      obtain ⟨⟨z0, z1, z2, z3⟩, y0, y1, y2, y3⟩ := zbox_kept hbz
      have bT : BoxT wr W.heap.size ⟨4, 0, s, aa, j, cap⟩ := (hg.block W.heap.size (by omega) (by omega)).trans (unhide HBA5)
      have x2 := bT.c2
      obtain ⟨f1, f2⟩ := comp_endG (rc := W.heap.size + 2) hgw hs hl50 (by omega) (by omega) hrow hwr
      have f3 := si_keep (lo := W.heap.size) (by omega) hgb hmb hIj (set4_below (Below.refl W.heap.size wr) (b := W.heap.size + 2) (by omega) 0 ⟨4, 0, s, some ⟨W4.heap.size, 0, none⟩, j, j⟩)
      have F1 := hide f1
      have F2 := hide f2
      have F3 := hide f3
      clear f1 f2 f3 hwr ht ht' hkids hkids' hrow hIj hbz bT
      go_wp2_with fail
      exact bodyPost_ret (v := (⟨4, 0, s, some ⟨W4.heap.size, 0, none⟩, j, j⟩ : TV).val) (by simp [results, Tryz.results63, go_sem, TV.val, z0, z1, z2, z3]) rfl ⟨_, rfl, unhide F1, unhide F3, unhide F2⟩

theorem parts_le {n : Nat} {kids : List (Tm n)} {u : Tm n} (h : u ∈ kids) : (parts u).length ≤ (kids.flatMap parts).length := by
  induction kids with
  | nil => cases h
  | cons v kids ih =>
    rw [List.flatMap_cons, List.length_append]
    rcases List.mem_cons.1 h with rfl | h
    · omega
    · have := ih h; omega

/-- term.generalize, whatever the two terms. -/
theorem generalize_any {n₀ gb mb : Nat} : ∀ (n : Nat) (a b : Tm n) (ps : List Pr) (W : World), Sta n₀ gb mb W → Si n₀ gb mb ps W → IsT n₀ W a → IsT n₀ W b → okT a = true → (∀ x ∈ parts a, Pw x) → (∀ x ∈ parts b, Pw x) → (parts a).length ≤ 1000000000 → (parts b).length ≤ 1000000000 → ps.length + (prs a b).length ≤ 1000000000 →
    Calls Tryz.prog 63 #[a.tv.val, b.tv.val, .func (.func 64) #[] #[.pointer (some ⟨gb, 0, none⟩)]] W fun e W' => GenSays n₀ gb mb a b ps W e W' := by
  intro n
  induction n with
  | zero => intro a; exact Empty.elim a
  | succ n ih =>
    intro a b ps W hS hI ha hb oka pa pb hla hlb hps
    cases hap : apart a.tv b.tv with
    | true => exact gen_apart a b ps W hS hI ha hb pa pb hla hlb (by omega) hap
    | false =>
      obtain ⟨hk1, hnd⟩ := apart_no hap
      have hw := oka
      obtain ⟨⟨k, N, s, aa, len, cap⟩, kids⟩ := a
      obtain ⟨⟨k', N', s', aa', len', cap'⟩, kids'⟩ := b
      obtain ⟨hwm, hk⟩ := ok_kids oka
      have ha2 := ha
      have hb2 := hb
      obtain ⟨h1, h2, h3, h4⟩ := ha2
      obtain ⟨h1', h2', h3', h4'⟩ := hb2
      simp only [Tm.tv, Tm.kids] at h1 h2 h3 h4 h1' h2' h3' h4' hwm hk1 hnd
      rcases wm_cases hwm with ⟨rfl, _⟩ | ⟨hk23, rfl⟩ | ⟨rfl, rfl, hl1, hl2⟩
      · exact (hk1 rfl).elim
      · have hnil : kids = [] := List.length_eq_zero_iff.1 h1.symm
        exact gen_leaf _ _ ps W _ hS hI ha oka hap (by show ¬ k = 4; omega) hnil
      · have hll : len = len' := by
          have := congrArg (fun z : Nd => z.2.2.2) hnd
          simpa [TV.nd] using this
        have hz : otop ⟨4, 0, s, aa, len, cap⟩ ⟨k', N', s', aa', len', cap'⟩ = 0 := otop_zero.2 (nd_stop.1 hnd)
        have hpr := prs_like hap
        have hGc : ∀ ι, Gc ι (n := n + 1) ((⟨4, 0, s, aa, len, cap⟩, kids) : TV × List (Tm n)) ((⟨k', N', s', aa', len', cap'⟩, kids') : TV × List (Tm n)) = _ := fun ι => Gc_like (ι := ι) hap
        simp only [Tm.kids] at hpr
        have pka : ∀ u ∈ kids, ∀ x ∈ parts u, Pw x := fun u hu x hx => pa x (List.mem_cons_of_mem _ (List.mem_flatMap.2 ⟨u, hu, hx⟩))
        have pkb : ∀ u ∈ kids', ∀ x ∈ parts u, Pw x := fun u hu x hx => pb x (List.mem_cons_of_mem _ (List.mem_flatMap.2 ⟨u, hu, hx⟩))
        have lka : ∀ u ∈ kids, (parts u).length ≤ 1000000000 := fun u hu => Nat.le_trans (parts_le hu) (Nat.le_trans (by show (kids.flatMap parts).length ≤ (_ :: kids.flatMap parts).length; simp) hla)
        have lkb : ∀ u ∈ kids', (parts u).length ≤ 1000000000 := fun u hu => Nat.le_trans (parts_le hu) (Nat.le_trans (by show (kids'.flatMap parts).length ≤ (_ :: kids'.flatMap parts).length; simp) hlb)
        refine (gen_comp (.func (.func 64) #[] #[.pointer (some ⟨gb, 0, none⟩)]) ih s aa len cap kids k' N' s' aa' len' cap' kids' ps W hS hI h3 hl2 h1 (by omega) hll h4 h4' hk pka pkb lka lkb (by rw [← hpr]; exact hps) hz).mono fun e W' h => ?_
        obtain ⟨x, e1, e2, e3, e4⟩ := h
        refine ⟨x, e1, e2, by rw [hpr]; exact e3, ?_⟩
        rw [hpr, hGc]
        exact e4
end Go.Proofs.YtcjeeagnfmipgaaGreatDoor

/- The contract of term.General. -/
namespace Go.Proofs.YtcjeeagnfmipgaaGreatDoor
open Go.RowKit Go.Shelf Go.Maps

/-- The generalization of two terms. -/
def lgg {n : Nat} (a b : Tm n) : List Nd := Gc (ιP (stepsP [] (prs a b))) a b
theorem checkPair {n : Nat} (x y : Tm n) (w W : World) (hx : IsT w.heap.size w x) (hy : IsT w.heap.size w y) (hb : Below w.heap.size w W) :
    Calls Tryz.prog 62 #[.slice (some ⟨W.heap.size, 0, none⟩) 2 2] (W.alloc (.cells #[.int .i64 x.tv.k, .int .i64 x.tv.N, .string x.tv.s, .slice x.tv.a x.tv.len x.tv.cap, .int .i64 y.tv.k, .int .i64 y.tv.N, .string y.tv.s, .slice y.tv.a y.tv.len y.tv.cap] 24)) fun e W2 => e = .returned (.int .i64 (chkL [x, y])) ∧ Below W.heap.size W W2 := by
  have hp := pair_lies hx hy W hb
  have hB : Below W.heap.size W (W.alloc (.cells #[.int .i64 x.tv.k, .int .i64 x.tv.N, .string x.tv.s, .slice x.tv.a x.tv.len x.tv.cap, .int .i64 y.tv.k, .int .i64 y.tv.N, .string y.tv.s, .slice y.tv.a y.tv.len y.tv.cap] 24)) := (Below.refl _ W).alloc (Nat.le_refl _) _
  have h := checkAll_any [x, y] (some ⟨W.heap.size, 0, none⟩) 2 2 (W.alloc (.cells #[.int .i64 x.tv.k, .int .i64 x.tv.N, .string x.tv.s, .slice x.tv.a x.tv.len x.tv.cap, .int .i64 y.tv.k, .int .i64 y.tv.N, .string y.tv.s, .slice y.tv.a y.tv.len y.tv.cap] 24)) rfl (by omega) hp
  exact h.mono fun e W2 h => ⟨h.1, hB.trans (h.2.mono hB.size)⟩

set_option maxRecDepth 100000 in
set_option maxHeartbeats 1000000 in
theorem general_any {n : Nat} (a b : Tm n) (w : World) (ha : IsT w.heap.size w a) (hb : IsT w.heap.size w b) (oka : okT a = true) (okb : okT b = true) (pa : ∀ x ∈ parts a, Pw x) (pb : ∀ x ∈ parts b, Pw x) (hla : (parts a).length ≤ 1000000000) (hlb : (parts b).length ≤ 1000000000) (htab : Tab w.heap.size w) :
    Calls Tryz.prog 19 #[a.tv.val, b.tv.val] w fun e W' => ∃ x : TV, e = .returned (.tuple #[x.val, .int .i64 0]) ∧ Below w.heap.size w W' ∧ HoldsT (n + 1) w.heap.size W' x.val (lgg a b) := by
  obtain ⟨W3, hW3, hB3, hba, hbb, hbz, hs3⟩ := three_new w a.tv b.tv
  have hck := checkPair a b w W3 ha hb hB3
  rw [chkL_yes (show [a, b].all okT = true by simp [oka, okb])] at hck
  have hadr : (⟨W3.heap.size, 0, none⟩ : Addr) = ⟨w.heap.size + 1 + 1 + 1, 0, none⟩ := by rw [hs3]
  rw [hadr] at hck
  clear hadr
  have hpl : (prs a b).length ≤ 1000000000 := by
    have h1 := prs_len a b
    have h2 : (code a).length = (parts a).length := by simp [code]
    omega
  have hgen : ∀ (gb mb : Nat) (W : World), Sta w.heap.size gb mb W → Si w.heap.size gb mb [] W → Below w.heap.size w W → Calls Tryz.prog 63 #[a.tv.val, b.tv.val, .func (.func 64) #[] #[.pointer (some ⟨gb, 0, none⟩)]] W fun e W' => ∃ x : TV, e = .returned x.val ∧ GrB (fun k => k = mb) W.heap.size W W' ∧ HoldsT (n + 1) W.heap.size W' x.val (lgg a b) := fun gb mb W hS hI hbw => by
    refine (generalize_any n a b [] W hS hI (ha.below hbw) (hb.below hbw) oka pa pb hla hlb (by simpa using hpl)).mono fun e W' h => ?_
    obtain ⟨x, e1, e2, _, e4⟩ := h
    exact ⟨x, e1, e2, e4⟩
  have hsi : ∀ W5, Below w.heap.size w W5 → Si w.heap.size (W5.heap.size + 1) W5.heap.size [] ((W5.alloc (.map #[] 0)).alloc (.cells #[.map (some W5.heap.size)] 92)) := fun W5 hb5 => by
    have hb7 : Below w.heap.size w ((W5.alloc (.map #[] 0)).alloc (.cells #[.map (some W5.heap.size)] 92)) := (hb5.alloc hb5.size _).alloc (by have := hb5.size; simp; omega) _
    refine ⟨List.nodup_nil, (fun q hq => by cases hq), htab.on hb7, ?_, .map [], (World.ownsMap_made W5 Tryz.prog 9 (plainElem Tryz.prog 2)).alloc _, rfl, (fun k => by simp [Maps.has]), (fun q hq => by cases hq)⟩
    have h := World.alloc_heap_new (W5.alloc (.map #[] 0)) (.cells #[.map (some W5.heap.size)] 92)
    rw [World.size_alloc] at h
    exact h
  have a0 := hba.c0
  have a1 := hba.c1
  have a2 := hba.c2
  have a3 := hba.c3
  have b0 := hbb.c0
  have b1 := hbb.c1
  have b2 := hbb.c2
  have b3 := hbb.c3
  have hmm := @run_makeMap Tryz.prog
  simp only [TV.val] at hck hgen ⊢
  have HGEN := hide hgen
  have HSI := hide hsi
  have HB3 := hide hB3
  have HBA := hide hba
  have HBB := hide hbb
  have HBZ := hide hbz
  clear ha hb oka okb pa pb htab hpl hgen hsi hB3 hba hbb hbz
  go_enter Tryz.func19, Tryz.ntmps19
  go_wp2_with fail
  refine hck.mono ?_
  clear hck a0 a1 a2 a3 b0 b1 b2 b3
  rintro e W5 ⟨rfl, hb5⟩
  have hs5 := hb5.size
  have hB5 : Below w.heap.size w W5 := (unhide HB3).trans (hb5.mono (by omega))
  have hB7 : Below W5.heap.size W5 ((W5.alloc (.map #[] 0)).alloc (.cells #[.map (some W5.heap.size)] 92)) := ((Below.refl _ W5).alloc (Nat.le_refl _) _).alloc (by simp) _
  have hs7 : ((W5.alloc (.map #[] 0)).alloc (.cells #[.map (some W5.heap.size)] 92)).heap.size = W5.heap.size + 2 := by simp
  have hbw7 := hB5.trans (hB7.mono (by omega))
  have hI7 := (unhide HSI) W5 hB5
  have hba7 := ((unhide HBA).kept hb5).kept hB7
  have hbb7 := ((unhide HBB).kept hb5).kept hB7
  have hbz7 := ((unhide HBZ).kept hb5).kept hB7
  have hg7 := (unhide HGEN) (W5.heap.size + 1) W5.heap.size _ ⟨by omega, by omega, by omega, by omega⟩ hI7 hbw7
  have a0 := hba7.c0
  have a1 := hba7.c1
  have a2 := hba7.c2
  have a3 := hba7.c3
  have b0 := hbb7.c0
  have b1 := hbb7.c1
  have b2 := hbb7.c2
  have b3 := hbb7.c3
  have HBZ7 := hide hbz7
  have HBW7 := hide hbw7
  clear hI7 hba7 hbb7 hbz7 hbw7 hB7 hb5 HSI HGEN HBA HBB HBZ
  go_wp2_with fail
  refine hg7.mono ?_
  clear hg7 a0 a1 a2 a3 b0 b1 b2 b3 hmm
  rintro e W8 ⟨x, rfl, hg8, hx8⟩
  rw [hs7] at hg8 hx8
  have hs8 := hg8.size
  have hbz8 : BoxT W8 (w.heap.size + 2) ⟨0, 0, ⟨#[]⟩, none, 0, 0⟩ := (hg8.block _ (by omega) (by omega)).trans (unhide HBZ7)
  obtain ⟨⟨z0, z1, z2, z3⟩, y0, y1, y2, y3⟩ := zbox_kept hbz8
  have hfin := (holds_set4 hx8 (b := w.heap.size + 2) (by omega) 0 x).mono (lo' := w.heap.size) (Nat.le_refl _) (by omega)
  have hbf := set4_below ((unhide HBW7).trans (hg8.below (n₀ := w.heap.size) (fun k hx => by omega) (by omega))) (b := w.heap.size + 2) (by omega) 0 x
  have HF := hide (And.intro hbf hfin)
  clear hbf hfin hx8 hg8 hbz8
  go_wp2_with fail
  exact bodyPost_ret (v := .tuple #[x.val, .int .i64 0]) (by simp [results, Tryz.results19, go_sem, TV.val, z0, z1, z2, z3]) rfl ⟨x, rfl, unhide HF⟩
end Go.Proofs.YtcjeeagnfmipgaaGreatDoor

