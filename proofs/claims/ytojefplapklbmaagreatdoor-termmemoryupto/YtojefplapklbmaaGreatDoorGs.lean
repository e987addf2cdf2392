import Derived.Test.YtojefplapklbmaaGreatDoorAns
import Derived.Test.YtojefplapklbmaaGreatDoorNss
import Derived.StringKeys
import Derived.Laws.IdiomStrings
/- The contract of General's closure: a variable for each pair of terms, the same for the same pair. -/
namespace Go.Proofs.YtojefplapklbmaaGreatDoor
open Go.RowKit Go.Shelf Go.Maps

theorem Tryz.keyed9 : Keyed Tryz.prog 9 := string_keyed Tryz.underlying9
def stpP (ps : List Pr) (p : Pr) : List Pr := if p ∈ ps then ps else ps ++ [p]
def WordP (p : Pr) : Prop := Word p.1 ∧ Word p.2
/-- The map of pairs, the box that holds it. -/
structure Si (n₀ gb mb : Nat) (ps : List Pr) (W : World) : Prop where
  nodup : ps.Nodup
  word : ∀ p ∈ ps, WordP p
  tab : Tab n₀ W
  box : W.heap[gb]? = some (.cells #[.map (some mb)] 92 (0, 0))
  map : ∃ E : DataW Unit, W.ownsMap Tryz.prog 9 (plainElem Tryz.prog 2) mb ps.length E ∧ Maps.size E = ps.length ∧ (∀ k, Maps.has E (.string k) = true ↔ ∃ p ∈ ps, keyP p = k) ∧ ∀ p ∈ ps, ∀ z, E.atKey (.string (keyP p)) z = .lit (.int .i64 (ps.idxOf p : Nat))
theorem si_keep {n₀ gb mb lo : Nat} (h0 : n₀ ≤ lo) (h1 : gb < lo) (h2 : mb < lo) {ps : List Pr} {W W' : World} (h : Si n₀ gb mb ps W) (hb : Below lo W W') : Si n₀ gb mb ps W' := by
  obtain ⟨E, ⟨es, clock, e1, e2⟩, e3⟩ := h.map
  exact ⟨h.nodup, h.word, h.tab.on (hb.mono h0), (hb.block _ h1).trans h.box, E, ⟨es, clock, (hb.block _ h2).trans e1, e2⟩, e3⟩
theorem key_str {l : List UInt8} (h : l.length ≤ 1000000000000) : keyOf Tryz.prog 9 (.string ⟨l.toArray⟩) = some (.string l) := by
  have := Go.WideMaps.keyOf_string_mk (P := Tryz.prog) (k := 9) Tryz.underlying9 (s := ⟨l.toArray⟩) (by show l.toArray.size ≤ maxLen; unfold maxLen; simp; omega)
  simpa using this
theorem has_key {n₀ gb mb : Nat} {ps : List Pr} {W : World} (h : Si n₀ gb mb ps W) {p : Pr} (hp : WordP p) : (∃ q ∈ ps, keyP q = keyP p) ↔ p ∈ ps := by
  constructor
  · rintro ⟨q, hq, e⟩
    have := keyP_inj (h.word q hq).1 (h.word q hq).2 hp.1 hp.2 e
    rw [← this]; exact hq
  · exact fun hq => ⟨p, hq, rfl⟩
theorem si_look {n₀ gb mb : Nat} {ps : List Pr} {W : World} (h : Si n₀ gb mb ps W) {p : Pr} (hk : (keyP p).length ≤ 1000000000000) (hp : p ∈ ps) :
    (Instr.lookup 92 (.map (some mb)) (.string ⟨(keyP p).toArray⟩) true).run Tryz.prog W = .ok (.tuple #[.int .i64 (ps.idxOf p : Nat), .bool true]) W := by
  obtain ⟨E, e1, e0, e2, e3⟩ := h.map
  obtain ⟨v, q, hrun, hv⟩ := e1.look_ok Tryz.keyed9 Tryz.underlying92 (Tryz.zero2 W) (plainElem_int Tryz.underlying2 (by decide)) (key_str hk)
  rw [(e2 _).2 ⟨p, hp, rfl⟩] at hrun
  rw [e3 p hp] at hv
  obtain ⟨y, rfl, hy, _⟩ := plainElem_int_inv Tryz.underlying2 hv
  simp at hy
  rw [hrun, hy.1]
theorem si_miss {n₀ gb mb : Nat} {ps : List Pr} {W : World} (h : Si n₀ gb mb ps W) {p : Pr} (hw : WordP p) (hk : (keyP p).length ≤ 1000000000000) (hp : p ∉ ps) :
    (Instr.lookup 92 (.map (some mb)) (.string ⟨(keyP p).toArray⟩) true).run Tryz.prog W = .ok (.tuple #[.int .i64 0, .bool false]) W := by
  obtain ⟨E, e1, e0, e2, e3⟩ := h.map
  obtain ⟨v, q, hrun, hv⟩ := e1.look_ok Tryz.keyed9 Tryz.underlying92 (Tryz.zero2 W) (plainElem_int Tryz.underlying2 (by decide)) (key_str hk)
  have hf : Maps.has E (.string (keyP p)) = false := by
    cases hh : Maps.has E (.string (keyP p)) with
    | false => rfl
    | true => exact (hp ((has_key h hw).1 ((e2 _).1 hh))).elim
  rw [hf] at hrun
  rw [atKey_of_not_has hf] at hv
  obtain ⟨y, rfl, hy, _⟩ := plainElem_int_inv Tryz.underlying2 hv
  simp at hy
  rw [hrun, hy.1]
theorem si_len {n₀ gb mb : Nat} {ps : List Pr} {W : World} (h : Si n₀ gb mb ps W) (ty : TypeId) : (Builtin.len_ #[92] ty #[.map (some mb)]).run Tryz.prog W = .ok (.int .i64 (ps.length : Nat)) W := by
  obtain ⟨E, e1, e0, _⟩ := h.map
  rw [e1.len Tryz.underlying92 ty, e0]
theorem si_put {n₀ gb mb : Nat} {ps : List Pr} {W : World} (h : Si n₀ gb mb ps W) (hne : mb ≠ gb) (hn : n₀ ≤ mb) {p : Pr} (hw : WordP p) (hk : (keyP p).length ≤ 1000000000000) (hl : ps.length ≤ 1099511627776) (hp : p ∉ ps) :
    ∃ W', (Instr.mapUpdate 92 (.map (some mb)) (.string ⟨(keyP p).toArray⟩) (.int .i64 (ps.length : Nat))).run Tryz.prog W = .ok () W' ∧ W.grownBy W' (some mb) ∧ Si n₀ gb mb (ps ++ [p]) W' := by
  obtain ⟨E, e1, e0, e2, e3⟩ := h.map
  have hm := e1.isMap
  have htd := e1.tidy Tryz.keyed9
  obtain ⟨W', hrun, f1, f2⟩ := e1.update Tryz.keyed9 Tryz.underlying92 (by unfold maxLen; omega) (key_str hk) (plainElem_int Tryz.underlying2 (wf_i64 (N := (ps.length : Nat)) (by omega) (by omega)))
  have hkl : WideAt.IsKeyLit (.string (keyP p)) := Tryz.keyed9.key (key_str hk)
  have hlt : ∀ {k : Nat} {o : Obj}, W.heap[k]? = some o → k < W.heap.size := fun hk => (Array.getElem?_eq_some_iff.1 hk).1
  have hno : Maps.has E (.string (keyP p)) = false := by
    cases hh : Maps.has E (.string (keyP p)) with
    | false => rfl
    | true => exact (hp ((has_key h hw).1 ((e2 _).1 hh))).elim
  have hms := e1.lt
  refine ⟨W', hrun, f2, ⟨?_, ?_, ?_, ?_, _, (by simpa using f1), ?_, ?_, ?_⟩⟩
  · rw [List.nodup_append]
    exact ⟨h.nodup, by simp, fun a ha b hb => by simp at hb; subst hb; exact fun e => hp (e ▸ ha)⟩
  · intro q hq
    rcases List.mem_append.1 hq with hq | hq
    · exact h.word q hq
    · simp at hq; subst hq; exact hw
  · exact h.tab.on (grown_below f2 hn (by omega))
  · exact (f2.block gb (hlt h.box) (by simpa using hne.symm)).trans h.box
  · rw [size_put htd, hno, e0]; simp
  · intro k
    by_cases e : k = keyP p
    · subst e
      rw [has_put_same hm hkl]
      simp
    · rw [has_put_other (by simpa using e), e2 k]
      constructor
      · rintro ⟨q, h1, h2⟩; exact ⟨q, List.mem_append_left _ h1, h2⟩
      · rintro ⟨q, h1, h2⟩
        rcases List.mem_append.1 h1 with h1 | h1
        · exact ⟨q, h1, h2⟩
        · simp at h1; subst h1; exact (e h2.symm).elim
  · intro q hq z
    by_cases e : q = p
    · subst e
      rw [atKey_put_same hm hkl]
      have : (ps ++ [q]).idxOf q = ps.length := by rw [List.idxOf_append, if_neg hp]; simp
      rw [this]
    · have hqc : q ∈ ps := by simpa [e] using hq
      have hkn : keyP q ≠ keyP p := fun e' => e (keyP_inj (h.word q hqc).1 (h.word q hqc).2 hw.1 hw.2 e')
      rw [atKey_put_other (by simpa using hkn), e3 q hqc, List.idxOf_append, if_pos hqc]

theorem Tab.mono {B B' : Nat} {w : World} (h : Tab B w) (hB : B ≤ B') : Tab B' w := fun w' hb => h w' (hb.mono hB)
theorem three_new (w : World) (x y : TV) : ∃ W3, ((w.alloc (.cells #[.int .i64 x.k, .int .i64 x.N, .string x.s, .slice x.a x.len x.cap] 24)).alloc (.cells #[.int .i64 y.k, .int .i64 y.N, .string y.s, .slice y.a y.len y.cap] 24)).alloc (.cells #[.int .i64 0, .int .i64 0, .string ⟨#[]⟩, .slice none 0 0] 24) = W3 ∧ Below w.heap.size w W3 ∧ BoxT W3 w.heap.size x ∧ BoxT W3 (w.heap.size + 1) y ∧ BoxT W3 (w.heap.size + 2) ⟨0, 0, ⟨#[]⟩, none, 0, 0⟩ ∧ W3.heap.size = w.heap.size + 3 := by
  obtain ⟨W2, h1, h2, h3, h4, h5⟩ := two_new w x y
  rw [h1]
  refine ⟨_, rfl, h2.alloc (by omega) _, h3.alloc _, h4.alloc _, ?_, by simp [h5]⟩
  have := BoxT.new W2 ⟨0, 0, ⟨#[]⟩, none, 0, 0⟩
  rw [h5] at this
  exact this
theorem enc_pos {c : List Nd} (h : Word c) : 0 < (enc c).length := by
  cases c with
  | nil => simp [Word, runW] at h
  | cons x c =>
    simp only [enc, List.flatMap_cons, List.length_append, encN, List.length_cons]
    omega
/-- The bytes of a row, as a string. -/
theorem row_string {B : Nat} {W : World} {v : Value} {l : List UInt8} (h : Bytes B W v l) (hl : 0 < l.length) : (convert 94 9 v).run Tryz.prog W = .ok (.string ⟨l.toArray⟩) W := by
  have h' := h
  rcases h.2 with ⟨_, h0⟩ | ⟨g, cap, cur, rfl, _⟩
  · omega
  · exact run_convert_bytes_back (P := Tryz.prog) W 94 9 5 ⟨g, 0, none⟩ cap l Tryz.underlying94 Tryz.underlying5 Tryz.underlying9 (fun j hj => World.ownsRow.cells h' (g := g) rfl j _ (by simp [Lib.byteCells, hj]))

set_option maxRecDepth 100000 in
set_option maxHeartbeats 2000000 in
theorem stand_any {n n₀ gb mb : Nat} (a b : Tm n) (ps : List Pr) (W : World) (hn : n₀ ≤ mb) (hlt : gb < W.heap.size ∧ mb < W.heap.size) (hne : mb ≠ gb) (hI : Si n₀ gb mb ps W) (ha : IsT n₀ W a) (hb : IsT n₀ W b) (pa : ∀ x ∈ parts a, Pw x) (pb : ∀ x ∈ parts b, Pw x) (hla : (parts a).length ≤ 1000000000) (hlb : (parts b).length ≤ 1000000000) (hps : ps.length ≤ 1000000000) :
    Calls Tryz.prog 64 #[a.tv.val, b.tv.val, .pointer (some ⟨gb, 0, none⟩)] W fun e W' => e = .returned (varV ((stpP ps (code a, code b)).idxOf (code a, code b) : Nat)).val ∧ GrB (fun k => k = mb) W.heap.size W W' ∧ Si n₀ gb mb (stpP ps (code a, code b)) W' := by
  obtain ⟨W3, hW3, hB3, hba, hbb, hbz, hs3⟩ := three_new W a.tv b.tv
  have hwp : WordP (code a, code b) := ⟨word_code a ha.wl, word_code b hb.wl⟩
  have hka : (enc (code a)).length ≤ 200 * (parts a).length := enc_len (parts a) pa
  have hkb : (enc (code b)).length ≤ 200 * (parts b).length := enc_len (parts b) pb
  have hkey : (keyP (code a, code b)).length ≤ 1000000000000 := by simp only [keyP, List.length_append]; omega
  have hpos : 0 < (keyP (code a, code b)).length := by have h : 0 < (enc (code a)).length := enc_pos hwp.1; simp only [keyP, List.length_append]; omega
  have hdr : Below W3.heap.size W3 W3.drew := (Below.refl _ W3).drew
  have hI3 : Si n₀ gb mb ps W3 := si_keep (lo := W.heap.size) (by omega) hlt.1 hlt.2 hI hB3
  have ha3 : IsT W3.heap.size W3 a := (ha.below (hB3.mono (by omega))).mono (by omega)
  have hb3 : IsT W3.heap.size W3 b := (hb.below (hB3.mono (by omega))).mono (by omega)
  have htab : Tab W3.heap.size W3 := hI3.tab.mono (by omega)
  have h1 : Calls Tryz.prog 65 #[.slice none 0 0, a.tv.val] W3.drew fun e W4 => ∃ v, e = .returned v ∧ Bytes W3.heap.size W4 v (enc (code a)) ∧ Below W3.heap.size W3 W4 := by
    refine (appendKey_any a W3.heap.size (.slice none 0 0) [] W3.drew (ha3.below hdr) pa hdr.size (World.ownsRow_nil _ _ _ _) (by simp; omega) (htab.on hdr)).mono fun e W4 h => ?_
    obtain ⟨v, e1, e2, e3, _⟩ := h
    exact ⟨v, e1, by simpa using e2, hdr.trans e3⟩
  have h2 : ∀ (W4 : World) (v : Value), Bytes W3.heap.size W4 v (enc (code a)) → Below W3.heap.size W3 W4 → Calls Tryz.prog 65 #[v, b.tv.val] W4 fun e W5 => ∃ v', e = .returned v' ∧ Bytes W3.heap.size W5 v' (keyP (code a, code b)) ∧ Below W3.heap.size W4 W5 := fun W4 v hv hb4 => by
    refine (appendKey_any b W3.heap.size v (enc (code a)) W4 (hb3.below hb4) pb hb4.size hv (by omega) (htab.on hb4)).mono fun e W5 h => ?_
    obtain ⟨v', e1, e2, e3, _⟩ := h
    exact ⟨v', e1, e2, e3⟩
  obtain ⟨k, hk⟩ : ∃ k, keyP (code a, code b) = k := ⟨_, rfl⟩
  obtain ⟨p, hp⟩ : ∃ p, ((code a, code b) : Pr) = p := ⟨_, rfl⟩
  have hkp : keyP p = k := by rw [← hp, hk]
  rw [hp] at hwp ⊢
  rw [hk] at h2 hkey hpos
  clear hk hp
  have a0 := hba.c0
  have a1 := hba.c1
  have a2 := hba.c2
  have a3 := hba.c3
  have b0 := hbb.c0
  have b1 := hbb.c1
  have b2 := hbb.c2
  have b3 := hbb.c3
  simp only [TV.val] at h1 h2 ⊢
  have HI3 := hide hI3
  have HBZ := hide hbz
  have HB3 := hide hB3
  have HKP := hide hkp
  have HWP := hide hwp
  have hx1 : W.heap.size < W3.heap.size := by omega
  have hx2 : W.heap.size + 1 < W3.heap.size := by omega
  clear hI hI3 hbz hB3 ha hb ha3 hb3 htab pa pb hba hbb hka hkb hdr hkp hwp
  go_enter Tryz.func64, Tryz.ntmps64
  go_wp2_with fail
  refine wp_region_noPanic ?_
  refine wp_region_held_drew (S := (fun w' => (w'.cell? ⟨W.heap.size, 0, none⟩ = some (.int .i64 a.tv.k) ∧ w'.cell? ⟨W.heap.size, 1, none⟩ = some (.int .i64 a.tv.N) ∧ w'.cell? ⟨W.heap.size, 2, none⟩ = some (.string a.tv.s) ∧ w'.cell? ⟨W.heap.size, 3, none⟩ = some (.slice a.tv.a a.tv.len a.tv.cap)) ∧ w'.cell? ⟨W.heap.size + 1, 0, none⟩ = some (.int .i64 b.tv.k) ∧ w'.cell? ⟨W.heap.size + 1, 1, none⟩ = some (.int .i64 b.tv.N) ∧ w'.cell? ⟨W.heap.size + 1, 2, none⟩ = some (.string b.tv.s) ∧ w'.cell? ⟨W.heap.size + 1, 3, none⟩ = some (.slice b.tv.a b.tv.len b.tv.cap))) (by kernel_rfl) ?_ (fun hHeld => ?_)
  · go_keep
  refine wpAnyH_take (i := 0) (oi := { dst := some 9, op := Op.load 24 (Operand.tmp 3), type := 24, pos := "general.go:16", after := #[], guard := none }) (v := ?_) rfl (by kernel_rfl) (by kernel_rfl) (by kernel_rfl) (fun _ _ _ h => h) (Or.inl ⟨by rfl, ?_⟩) hHeld ?_
  rotate_left
  · (intro w' hSw; (try dsimp only at hSw); go_simp; try with_reducible rfl)
  try simp only [Act.put, List.setIfInBounds_toArray, List.set_cons_zero, List.set_cons_succ]
  refine wpAnyH_take (i := 2) (oi := { dst := some 11, op := Op.load 24 (Operand.tmp 4), type := 24, pos := "general.go:16", after := #[], guard := none }) (v := ?_) rfl (by kernel_rfl) (by kernel_rfl) (by kernel_rfl) (fun _ _ _ h => h) (Or.inl ⟨by rfl, ?_⟩) hHeld ?_
  rotate_left
  · (intro w' hSw; (try dsimp only at hSw); go_simp; try with_reducible rfl)
  try simp only [Act.put, List.setIfInBounds_toArray, List.set_cons_zero, List.set_cons_succ]
  refine wpAnyH_ready (rs := [1]) (by kernel_rfl) (by simp) ?_
  refine AllReadyH.cons (o := { dst := some 10, op := Op.call { callee := Callee.value (Operand.func 65), args := #[Operand.const (Value.slice none 0 0), Operand.tmp 9], argTypes := #[94, 24] }, type := 94, pos := "general.go:16", after := #[{ on := 0, ground := Ground.data }], guard := none }) rfl (fun K hK => ?_) AllReadyH.nil
  have hHold := hHeld
  clear hHeld
  go_simp
  refine h1.mono ?_
  clear h1
  rintro e W4 ⟨v, rfl, hv, hb4⟩
  obtain ⟨va, vl, vc, rfl⟩ := bytes_slice hv
  have hbc := bcell hb4
  go_wp2_with fail
  refine hK.out _ _ ?_ (fun hHeld => ?_)
  · ((try dsimp only); go_keep)
  clear hK K hHold
  try simp only [Act.put, List.setIfInBounds_toArray, List.set_cons_zero, List.set_cons_succ]
  refine wpAnyH_ready (rs := [3]) (by kernel_rfl) (by simp) ?_
  refine AllReadyH.cons (o := { dst := some 12, op := Op.call { callee := Callee.value (Operand.func 65), args := #[Operand.tmp 10, Operand.tmp 11], argTypes := #[94, 24] }, type := 94, pos := "general.go:16", after := #[{ on := 1, ground := Ground.data }, { on := 2, ground := Ground.data }, { on := 1, ground := Ground.chain }], guard := none }) rfl (fun K hK => ?_) AllReadyH.nil
  have hHold := hHeld
  clear hHeld
  go_simp
  refine (h2 W4 _ hv hb4).mono ?_
  clear h2
  rintro e W5 ⟨v', rfl, hv', hb5⟩
  obtain ⟨ua, ul, uc, rfl⟩ := bytes_slice hv'
  have hcv := row_string hv' hpos
  have hbd := bcell (hb4.trans hb5)
  go_wp2_with fail
  refine hK.out _ _ ?_ (fun hHeld => ?_)
  · ((try dsimp only); go_keep)
  clear hK K hHold
  try simp only [Act.put, List.setIfInBounds_toArray, List.set_cons_zero, List.set_cons_succ]
  refine wpAnyH_ready (rs := [4]) (by kernel_rfl) (by simp) ?_
  refine AllReadyH.cons (o := { dst := some 13, op := Op.convert 94 9 (Operand.tmp 12), type := 9, pos := "general.go:16", after := #[{ on := 3, ground := Ground.data }], guard := none }) rfl (fun K hK => ?_) AllReadyH.nil
  have hHold := hHeld
  clear hHeld
  go_simp
  refine hK.out _ _ ?_ (fun hHeld => ?_)
  · ((try dsimp only); go_keep)
  clear hK K hHold
  try simp only [Act.put, List.setIfInBounds_toArray, List.set_cons_zero, List.set_cons_succ]
  refine wpAnyH_take (i := 5) (oi := { dst := some 6, op := Op.assign (Operand.tmp 13), type := 9, pos := "general.go:16", after := #[{ on := 4, ground := Ground.data }, { on := 3, ground := Ground.chain }, { on := 0, ground := Ground.phase }, { on := 1, ground := Ground.phase }, { on := 2, ground := Ground.phase }, { on := 3, ground := Ground.phase }, { on := 4, ground := Ground.phase }], guard := none }) (v := ?_) rfl (by kernel_rfl) (by kernel_rfl) (by kernel_rfl) (fun _ _ _ h => h) (Or.inl ⟨by rfl, ?_⟩) hHeld ?_
  rotate_left
  · (intro w' hSw; (try dsimp only at hSw); go_simp; try with_reducible rfl)
  try simp only [Act.put, List.setIfInBounds_toArray, List.set_cons_zero, List.set_cons_succ]
  refine wpAnyH_done (by kernel_rfl) ?_ _
  refine NoPanic.normal ?_
  have hb35 : Below W3.heap.size W3 W5 := hb4.trans hb5
  have hI5 := si_keep (lo := W3.heap.size) (by omega) (by omega) (by omega) (unhide HI3) hb35
  have hbz5 : BoxT W5 (W.heap.size + 2) ⟨0, 0, ⟨#[]⟩, none, 0, 0⟩ := (hb35.block _ (by omega)).trans (unhide HBZ)
  have hBW5 : Below W.heap.size W W5 := (unhide HB3).trans (hb35.mono (by omega))
  have hs5 : W.heap.size + 3 ≤ W5.heap.size := by have := hb35.size; omega
  obtain ⟨m0, -⟩ := one_cell hI5.box
  clear hHeld hv hv' hcv hbc hbd hb4 hb5 hb35 HI3 HBZ HB3 a0 a1 a2 a3 b0 b1 b2 b3
  have HBW5 := hide hBW5
  have HBZ5 := hide hbz5
  clear hBW5 hbz5
  by_cases hp : p ∈ ps
  · have hrun := si_look hI5 (p := p) (by rw [unhide HKP]; exact hkey) hp
    rw [unhide HKP] at hrun
    have e0 : stpP ps p = ps := if_pos hp
    obtain ⟨M, hM⟩ : ∃ M : Int, (ps.idxOf p : Int) = M := ⟨_, rfl⟩
    rw [hM] at hrun
    have e1 : (((stpP ps p).idxOf p : Nat) : Int) = M := by rw [e0]; exact hM
    have hI6 : ∀ W', Below W.heap.size W5 W' → Si n₀ gb mb (stpP ps p) W' := fun W' hb => by rw [e0]; exact si_keep (lo := W.heap.size) (by omega) hlt.1 hlt.2 hI5 hb
    have hva := variable_any M W5
    have HE1 := hide e1
    have HI6 := hide hI6
    simp only [TV.val, varV] at hva
    clear e0 e1 hM hp hI5 hI6
    go_wp2_with fail
    refine hva.mono ?_
    clear hva hrun
    rintro e W6 ⟨rfl, hb6⟩
    have hbz6 := (hb6.block _ (unhide HBZ5).lt).trans (unhide HBZ5)
    obtain ⟨⟨z0, z1, z2, z3⟩, y0, y1, y2, y3⟩ := zbox_kept hbz6
    have hB6 : Below W.heap.size W5 (set4 W6 (W.heap.size + 2) 0 (varV M)) := set4_below (hb6.mono (by omega)) (by omega) 0 _
    have HB6 := hide hB6
    clear hb6 hbz6 hB6
    go_wp2_with fail
    exact bodyPost_ret (v := (varV M).val) (by simp [results, Tryz.results64, go_sem, TV.val, varV, z0, z1, z2, z3]) rfl ⟨by rw [unhide HE1]; rfl, GrB.of_below ((unhide HBW5).trans (unhide HB6)), (unhide HI6) _ (unhide HB6)⟩
  · have hrun := si_miss hI5 (p := p) (unhide HWP) (by rw [unhide HKP]; exact hkey) hp
    rw [unhide HKP] at hrun
    have hlen := si_len hI5
    obtain ⟨W6, hup, hg6, hI6⟩ := si_put hI5 hne hn (unhide HWP) (by rw [unhide HKP]; exact hkey) (by omega) hp
    rw [unhide HKP] at hup
    have e0 : stpP ps p = ps ++ [p] := if_neg hp
    have e1 : (((stpP ps p).idxOf p : Nat) : Int) = (ps.length : Nat) := by rw [e0, List.idxOf_append, if_neg hp]; simp
    rw [← e0] at hI6
    have hva := variable_any (ps.length : Nat) W6
    have hbz6 : BoxT W6 (W.heap.size + 2) ⟨0, 0, ⟨#[]⟩, none, 0, 0⟩ := (hg6.block _ (unhide HBZ5).lt (by simp; omega)).trans (unhide HBZ5)
    have hG6 : GrB (fun k => k = mb) W.heap.size W W6 := (GrB.of_below (unhide HBW5)).trans ⟨hg6.os, hg6.tape, hg6.output, hg6.size, fun k hk hx => hg6.block k (by omega) (by simpa using hx)⟩
    have hs6 : W.heap.size + 3 ≤ W6.heap.size := by have := hg6.size; omega
    have HE1 := hide e1
    have HI6 := hide hI6
    have HBZ6 := hide hbz6
    have HG6 := hide hG6
    simp only [TV.val, varV] at hva
    clear e0 e1 hp hI5 hI6 hg6 hbz6 hG6
    go_wp2_with fail
    refine hva.mono ?_
    clear hva hrun hup hlen
    rintro e W7 ⟨rfl, hb7⟩
    have hbz7 := (hb7.block _ (unhide HBZ6).lt).trans (unhide HBZ6)
    obtain ⟨⟨z0, z1, z2, z3⟩, y0, y1, y2, y3⟩ := zbox_kept hbz7
    have hB7 : Below W.heap.size W6 (set4 W7 (W.heap.size + 2) 0 (varV (ps.length : Nat))) := set4_below (hb7.mono (by omega)) (by omega) 0 _
    have HB7 := hide hB7
    clear hb7 hbz7 hB7
    go_wp2_with fail
    exact bodyPost_ret (v := (varV (ps.length : Nat)).val) (by simp [results, Tryz.results64, go_sem, TV.val, varV, z0, z1, z2, z3]) rfl ⟨by rw [unhide HE1]; rfl, (unhide HG6).trans (GrB.of_below (unhide HB7)), si_keep (lo := W.heap.size) (by omega) hlt.1 hlt.2 (unhide HI6) (unhide HB7)⟩
end Go.Proofs.YtojefplapklbmaaGreatDoor

