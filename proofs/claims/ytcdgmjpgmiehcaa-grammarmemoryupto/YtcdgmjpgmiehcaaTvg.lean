import Derived.Test.YtcdgmjpgmiehcaaOpGs
import Derived.Test.YtcdgmjpgmiehcaaGmQs
/- (Tv without Ak, for seats that have no appendKey.) The contract of term.Vars: the variables, in the order of their coming. -/
namespace Go.Proofs.Ytcdgmjpgmiehcaa
open Go.RowKit Go.Shelf Go.Maps
attribute [local go_sem] Oper.semAt_some

theorem wm_var {N : Int} {s : ByteArray} {len : Nat} (h : wmB 1 N s len = true) : 0 ≤ N ∧ N ≤ 1099511627776 := by
  simp [wmB] at h
  omega


/-- How a set's element reads. -/
def unitElem (v : Value) : Option (DataW Unit × List MemPlace) :=
  match v with
  | .agg cs => match cs.toList with
    | [] => some (.held (), [])
    | _ => none
  | _ => none
theorem unitElem_mk : unitElem (.agg #[]) = some (.held (), []) := by simp [unitElem]
theorem unitElem_inv {v : Value} {z : DataW Unit × List MemPlace} (h : unitElem v = some z) : v = .agg #[] := by
  unfold unitElem at h
  split at h
  · split at h
    · rename_i cs _ hcs
      simp only [Value.agg.injEq]
      rw [← Array.toList_inj, hcs]
    · cases h
  · cases h
theorem Try.zeroU (w : World) : (zeroValue 82).run Try.prog w = .ok (.agg #[]) w := by kernel_rfl
/-- A set of numbers that the call made, and the box that holds it. -/
structure SetI (mb bb : Nat) (c : List Int) (W : World) : Prop where
  nodup : c.Nodup
  key : ∀ N ∈ c, 0 ≤ N ∧ N ≤ 1099511627776
  box : W.heap[bb]? = some (.cells #[.map (some mb)] 81 (0, 0))
  map : ∃ E : DataW Unit, W.ownsMap Try.prog 2 unitElem mb c.length E ∧ ∀ N, Maps.has E (.int .i64 N) = true ↔ N ∈ c
theorem setI_keep {mb bb : Nat} {c : List Int} {W W' : World} (h : SetI mb bb c W) (h1 : W'.heap[mb]? = W.heap[mb]?) (h2 : W'.heap[bb]? = W.heap[bb]?) : SetI mb bb c W' := by
  obtain ⟨E, ⟨es, clock, e1, e2⟩, e3⟩ := h.map
  exact ⟨h.nodup, h.key, h2.trans h.box, E, ⟨es, clock, h1.trans e1, e2⟩, e3⟩
theorem SetI.lt {mb bb : Nat} {c : List Int} {W : World} (h : SetI mb bb c W) : mb < W.heap.size ∧ bb < W.heap.size := by
  obtain ⟨E, e1, _⟩ := h.map
  exact ⟨e1.lt, (Array.getElem?_eq_some_iff.1 h.box).1⟩
theorem SetI.look {mb bb : Nat} {c : List Int} {W : World} (h : SetI mb bb c W) {N : Int} (h0 : 0 ≤ N) (h1 : N ≤ 1099511627776) :
    (Instr.lookup 81 (.map (some mb)) (.int .i64 N) true).run Try.prog W = .ok (.tuple #[.agg #[], .bool (decide (N ∈ c))]) W := by
  obtain ⟨E, e1, e2⟩ := h.map
  obtain ⟨v, ps, hrun, hv⟩ := e1.look_ok Try.keyed2 Try.underlying81 (Try.zeroU W) unitElem_mk (key_i64 h0 h1)
  have hv' := unitElem_inv hv
  subst hv'
  have hh : Maps.has E (.int .i64 N) = decide (N ∈ c) := by rw [Bool.eq_iff_iff, decide_eq_true_eq]; exact e2 N
  rw [hh] at hrun
  exact hrun
theorem SetI.put {mb bb : Nat} {c : List Int} {W : World} (h : SetI mb bb c W) (hne : mb ≠ bb) {N : Int} (h0 : 0 ≤ N) (h1 : N ≤ 1099511627776) (hN : N ∉ c) :
    ∃ W', (Instr.mapUpdate 81 (.map (some mb)) (.int .i64 N) (.agg #[])).run Try.prog W = .ok () W' ∧ W.grownBy W' (some mb) ∧ SetI mb bb (c ++ [N]) W' := by
  have hle := nodup_range h.nodup h.key
  obtain ⟨E, e1, e2⟩ := h.map
  have hm := e1.isMap
  obtain ⟨W', hrun, f1, f2⟩ := e1.update Try.keyed2 Try.underlying81 (by unfold maxLen; omega) (key_i64 h0 h1) unitElem_mk
  have hkl : WideAt.IsKeyLit (.int .i64 N) := Try.keyed2.key (key_i64 h0 h1)
  refine ⟨W', hrun, f2, ⟨?_, ?_, (f2.block bb h.lt.2 (by simpa using hne.symm)).trans h.box, _, f1.mono (by simp), ?_⟩⟩
  · rw [List.nodup_append]
    exact ⟨h.nodup, by simp, fun a ha b hb => by simp at hb; subst hb; exact fun e => hN (e ▸ ha)⟩
  · intro M hM
    rcases List.mem_append.1 hM with hM | hM
    · exact h.key M hM
    · simp at hM; subst hM; exact ⟨h0, h1⟩
  · intro M
    by_cases e : M = N
    · subst e
      rw [has_put_same hm hkl]
      simp
    · rw [has_put_other (by simpa using e), e2 M]
      simp [e]

/-- One number behind a row of numbers, inside a fence. -/
theorem append_num_in {F : Fence} {m : Nat} {w : World} {ops : Array Oper} {rest : List Oper} {o : Oper} {a : Act} {Q : Exit → Act → World → Prop} (hgd : o.guard = none) (sl x : Operand)
    (ho : o.op = .call { callee := .builtin .append, args := #[sl, x], argTypes := #[66, 66] }) {B : Nat} {v : Value} {l : List Int} {N : Int} {g c : Nat} (hs : a.eval sl = v) (hx : a.eval x = .slice (some ⟨g, 0, none⟩) 1 c) (hown : OwnN B w v l) (hc : w.cell? ⟨g, 0, none⟩ = some (.int .i64 N)) (hb : l.length ≤ 4194304) (hB : B ≤ w.heap.size)
    (h : ∀ v' w', OwnN B w' v' (l ++ [N]) → w.grownBy w' v.ownBlock → wpListIn F m Try.prog ops Q rest (a.put o.dst v') w') : wpListIn F m Try.prog ops Q (o :: rest) a w := by
  obtain ⟨i0, hi, hz0, hz1, hz2⟩ := info_parts Try.infoN
  obtain ⟨v', w', hr, h2, h3, _⟩ := run_append_own_at (P := Try.prog) w B 66 o.type 2 i0 _ 1 8 Try.underlying66 hi hz0 hz1 hz2 rfl (by decide) v _ _ hown ⟨g, 0, none⟩ 1 c [.int .i64 N] rfl (fun j u hj => by
    rw [addr_add, Nat.zero_add]
    match j, hj with
    | 0, hj => simp at hj; subst hj; exact hc
    | j + 1, hj => simp at hj) one_one (by unfold maxLen; omega) (by omega) hB
  have hby : OwnN B w' v' (l ++ [N]) := by
    unfold OwnN
    rw [List.length_append]
    have : i64s (l ++ [N]) = i64s l ++ [.int .i64 N] := by simp [i64s]
    rw [this]
    exact h2
  refine wpListIn_plain hgd fun K hK => ?_
  unfold Oper.wpIn
  refine ⟨by simp [Oper.about, ho, resolve, Target.leads, Sem.run_pure], ?_⟩
  rw [Oper.semAt_plain F _ _ (by rw [ho]; intro c hc'; cases hc')]
  simp [execOp, ho, resolve, invoke, builtin, hs, hx, hr, Result.andThen]
  exact hK _ _ (h v' w' hby h3)

/-- What lies under way in term.Vars: the list's box, its row, the set, all else as it was. -/
structure VarI (w : World) (lb mb bb : Nat) (c : List Int) (W : World) : Prop where
  row : ∃ v, Boxed W lb 66 v ∧ OwnN w.heap.size W v c
  set : SetI mb bb c W
  below : Below w.heap.size w W
theorem ownN_cells {B : Nat} {W : World} {v : Value} {l : List Int} (h : OwnN B W v l) : ∀ g, v.ownBlock = some g → B ≤ g ∧ ∃ cur, W.heap[g]? = some (.cells cur 2 (0, 0)) := fun g hg => by
  rcases h.2 with ⟨rfl, _⟩ | ⟨g', cap, cur, rfl, h1, hb, _⟩
  · cases hg
  · have : g' = g := by simpa [Value.ownBlock] using hg
    subst this
    exact ⟨h1, cur, hb⟩
theorem varI_own {β : Type} {w : World} {lb mb bb Bz : Nat} (hz : w.heap.size ≤ Bz) (hmb : mb < Bz) (f : β → List Int) : OwC 22 Bz (fun s W => VarI w lb mb bb (f s) W) := fun s X Y row hs hg hr => by
  obtain ⟨v, hb, hv⟩ := hs.row
  have hcell : ∀ (g : Nat) (c : Array Value) (t : TypeId) (fz : Nat × Nat), (t == 22) = false → X.heap[g]? = some (Obj.cells c t fz) → Y.heap[g]? = X.heap[g]? := fun g c t fz ht hc => by
    refine hg.block g (Array.getElem?_eq_some_iff.1 hc).1 fun e => ?_
    obtain ⟨o, ho, hoc⟩ := (hr g e.symm).2
    rw [hc] at ho
    cases ho
    rcases hoc with hoc | hoc
    · cases hoc
    · simp only [ofK] at hoc
      rw [ht] at hoc
      cases hoc
  refine ⟨⟨v, (hcell _ _ _ _ rfl hb).trans hb, hv.kept fun g hg' => ?_⟩, setI_keep hs.set ?_ (hcell _ _ _ _ rfl hs.set.box), ?_⟩
  · obtain ⟨_, cur, hc⟩ := ownN_cells hv g hg'
    exact hcell _ _ _ _ rfl hc
  · refine hg.block mb hs.set.lt.1 fun e => ?_
    have := (hr mb e.symm).1
    omega
  · exact hs.below.grown hg hs.below.size (fun k e => Nat.le_trans hz (hr k e).1)
theorem VarI.alloc {w : World} {lb mb bb : Nat} {c : List Int} {W : World} (h : VarI w lb mb bb c W) (o : Obj) : VarI w lb mb bb c (W.alloc o) := by
  obtain ⟨v, hb, hv⟩ := h.row
  exact ⟨⟨v, hb.alloc _, World.ownsRow.alloc hv _⟩, setI_keep h.set (Below.heap_alloc _ _ _ h.set.lt.1) (Below.heap_alloc _ _ _ h.set.lt.2), h.below.alloc h.below.size _⟩
/-- A box of another kind stays where a row of numbers has grown. -/
theorem num_keeps {B : Nat} {W W' : World} {v : Value} {l : List Int} (hv : OwnN B W v l) (hg : W.grownBy W' v.ownBlock) {k : Nat} {o : Obj} (hk : W.heap[k]? = some o) (ho : ∀ c fz, o ≠ .cells c 2 fz) : W'.heap[k]? = some o := by
  refine (hg.block k (Array.getElem?_eq_some_iff.1 hk).1 fun e => ?_).trans hk
  obtain ⟨_, cur, hc⟩ := ownN_cells hv k e.symm
  rw [hk] at hc
  cases hc
  exact ho _ _ rfl
theorem num_box {B lb : Nat} {W W' : World} {v : Value} {l : List Int} {o : Obj} {u : Value} (hb : Boxed W lb 66 u) (hv : OwnN B (W.alloc o) v l) (hg : (W.alloc o).grownBy W' v.ownBlock) : Boxed W' lb 66 u :=
  num_keeps hv hg (hb.alloc o) (fun c fz e => by cases e)
theorem vars_new (W : World) : ∃ W3, ((W.alloc (.cells #[.slice none 0 0] 66)).alloc (.map #[] 0)).alloc (.cells #[.map (some (W.heap.size + 1))] 81) = W3 ∧ W3.heap.size = W.heap.size + 3 ∧ Below W.heap.size W W3 ∧ Boxed W3 W.heap.size 66 (.slice none 0 0) ∧ SetI (W.heap.size + 1) (W.heap.size + 2) [] W3 := by
  refine ⟨_, rfl, by simp, (((Below.refl _ W).alloc (Nat.le_refl _) _).alloc (by simp) _).alloc (by simp; omega) _, ((Boxed.new W 66 (.slice none 0 0)).alloc _).alloc _, ⟨List.nodup_nil, (fun N hN => by cases hN), ?_, .map [], ?_, (fun N => by simp [Maps.has])⟩⟩
  · have h := World.alloc_heap_new ((W.alloc (.cells #[.slice none 0 0] 66)).alloc (.map #[] 0)) (.cells #[.map (some (W.heap.size + 1))] 81)
    simp only [World.size_alloc] at h
    exact h
  · have h := World.ownsMap_made (H := Unit) (W.alloc (.cells #[.slice none 0 0] 66)) Try.prog 2 unitElem
    simp only [World.size_alloc] at h
    exact h.alloc _

set_option maxRecDepth 100000 in
set_option maxHeartbeats 4000000 in
theorem vars_in (n : Nat) (hn : 4 ≤ n) {d : Nat} (t : Tm d) (w : World) (hT : IsT w.heap.size w t) (hok : okT t = true) (hl : (parts t).length ≤ 4194304) :
    CallsIn Fence.wide n Try.prog 38 #[t.tv.val] w fun e W' => ∃ v, e = .returned (.tuple #[v, .int .i64 0]) ∧ OwnN w.heap.size W' v (varsC [] (code t)) ∧ Below w.heap.size w W' := by
  have h1 : 1 ≤ n := by omega
  have hB1 := (Below.refl _ w).alloc (Nat.le_refl _) (.cells #[.int .i64 t.tv.k, .int .i64 t.tv.N, .string t.tv.s, .slice t.tv.a t.tv.len t.tv.cap] 24)
  have hch := check_in (n - 1) (by omega) t _ ((hT.below hB1).mono hB1.size)
  rw [chk_yes hok] at hch
  have hbx := BoxT.new w t.tv
  have hmm := @run_makeMap Try.prog
  generalize hx0 : t.tv = x0 at *
  have Hx0 := hide hx0
  clear hx0
  simp only [TV.val] at hch
  refine callsIn_of_wp_marks Try.func38 rfl trivial ?_ rfl
  simp only [TV.val, Try.ntmps38, List.size_toArray, List.length_cons, List.length_nil, Nat.reduceAdd, Nat.reduceSub, Array.replicate_succ, Array.replicate_zero, List.push_toArray, List.append_toArray, List.nil_append, List.cons_append]
  gi_wp2
  refine ⟨trivial, hch.mono ?_⟩
  clear hch
  rintro e W1 ⟨rfl, hb1⟩
  have hbx1 : BoxT W1 w.heap.size x0 := (hb1.block w.heap.size (by simp)).trans hbx
  have hB : Below w.heap.size w W1 := hB1.trans (hb1.mono hB1.size)
  have hlt1 : w.heap.size < W1.heap.size := hbx1.lt
  clear hbx hB1 hb1
  obtain ⟨W3, hW3, hs3, hB3, hbl, hset⟩ := vars_new W1
  have hbx3 : BoxT W3 w.heap.size x0 := (hB3.block w.heap.size hlt1).trans hbx1
  have d0 := hbx3.c0
  have d1 := hbx3.c1
  have d2 := hbx3.c2
  have d3 := hbx3.c3
  gi_wp2_with (refine ⟨trivial, ?_⟩; gi_at_call 39; refine (parts_in Fence.wide (n - 1) trivial rfl x0 _).mono ?_; rintro e w' ⟨rfl, rfl⟩)
  clear d0 d1 d2 d3 hW3 hmm
  have hbT := BoxT.new W3 x0
  rw [hs3] at hbT
  have hB4 : Below w.heap.size w (W3.alloc (.cells #[.int .i64 x0.k, .int .i64 x0.N, .string x0.s, .slice x0.a x0.len x0.cap] 24)) := (hB.trans (hB3.mono (by omega))).alloc (by omega) _
  have hs4 : (W3.alloc (.cells #[.int .i64 x0.k, .int .i64 x0.N, .string x0.s, .slice x0.a x0.len x0.cap] 24)).heap.size = W1.heap.size + 4 := by simp [hs3]
  have hI0 : VarI w W1.heap.size (W1.heap.size + 1) (W1.heap.size + 1 + 1) (varsC [] ((([] : List { x : TV // x.ok = true }).map Subtype.val).map TV.nd)) (W3.alloc (.cells #[.int .i64 x0.k, .int .i64 x0.N, .string x0.s, .slice x0.a x0.len x0.cap] 24)) :=
    ⟨⟨_, hbl.alloc _, OwnN.nil _ _⟩, setI_keep hset (Below.heap_alloc _ _ _ (by omega)) (Below.heap_alloc _ _ _ (by omega)), hB4⟩
  obtain ⟨W4, hW4⟩ : ∃ W4, W3.alloc (.cells #[.int .i64 x0.k, .int .i64 x0.N, .string x0.s, .slice x0.a x0.len x0.cap] 24) = W4 := ⟨_, rfl⟩
  rw [hW4] at hbT hB4 hs4 hI0 ⊢
  clear hW4 hset hbl hB3 hs3 hbx3
  have hP : ∀ x ∈ parts t, x.ok = true := List.all_eq_true.1 hok
  refine rangeC (k := 22) rfl h1 (gf := 54) (lb := #[.pointer (some ⟨W1.heap.size + 3, 0, none⟩)]) rfl trivial (enters_of Try.func54 (by kernel_rfl) rfl)
    (parts_stopsP (fun x => x.ok = true) (n - 1) (W1.heap.size + 3) w.heap.size W4.heap.size t W4 hP (by rw [unhide Hx0]; exact hbT) (hT.below hB4) (by omega) (Nat.le_refl _)) Kp.trans (Kp.putObj (w := W4)) (Below.refl _ _) (fun _ => rfl)
    (fun pre W => VarI w W1.heap.size (W1.heap.size + 1) (W1.heap.size + 1 + 1) (varsC [] ((pre.map Subtype.val).map TV.nd)) W ∧ (pre.length ≤ (parts t).length ∧ W1.heap.size + 4 ≤ W.heap.size))
    (fun _ _ _ => False)
    (OwC.and (varI_own (by omega) (by omega) (fun pre : List { x : TV // x.ok = true } => varsC [] ((pre.map Subtype.val).map TV.nd))) (OwC.and (owC_pure _ _ _) (fun _ X Y row hs hg _ => Nat.le_trans hs hg.size)))
    (fun c s A B row hs hg hr => hs)
    ⟨hI0, Nat.zero_le _, by omega⟩
    (fun x a' W => ∃ Bx, W1.heap.size + 3 < Bx ∧ BoxT W Bx x.1 ∧ a' = { tmps := #[.agg #[.int .i64 x0.k, .int .i64 x0.N, .string x0.s, .slice x0.a x0.len x0.cap], .pointer (some ⟨w.heap.size, 0, none⟩), .slice none 0 0, .int .i64 0, .int .i64 0, .pointer (some ⟨W1.heap.size, 0, none⟩), .pointer (some ⟨W1.heap.size + 1 + 1, 0, none⟩), .pointer (some ⟨Bx, 0, none⟩), undef, undef, .agg #[.int .i64 x0.k, .int .i64 x0.N, .string x0.s, .slice x0.a x0.len x0.cap], .int .i64 0, .int .i64 0, .bool false, undef, .map (some (W1.heap.size + 1)), .agg #[.int .i64 x0.k, .int .i64 x0.N, .string x0.s, .slice x0.a x0.len x0.cap], .func (.func 54) #[] #[.pointer (some ⟨W1.heap.size + 3, 0, none⟩)], x.1.val, undef, undef, undef, undef, undef, undef, undef, undef, undef, undef, undef, undef, undef, undef, undef, undef, undef, undef, undef, undef, undef, undef], defers := [] })
    (fun x a' _ X Y row hs hg hr => by obtain ⟨Bx, h1, h2, h3⟩ := hs; exact ⟨Bx, h1, boxT_owC _ Bx (fun (_ : Unit) => x.1) () X Y row h2 hg hr, h3⟩)
    ?assign ?body ?done ?stop
  case assign =>
    rintro l' pre x W K ⟨hI, hl, hw3⟩ hK
    simp only [TV.val]
    gi_wp2
    exact hK _ _ ((KeepsOthers.alloc _ _).from _) ((Kp.refl _ _ W).alloc _) ⟨hI.alloc _, hl, by simp; omega⟩ ⟨W.heap.size, by omega, BoxT.new W x.1, rfl⟩
  case body =>
    rintro l' pre x a' W hl' ⟨r, hr⟩ ⟨hI, hpl, hw3⟩ ⟨Bx, hBx, bX, rfl⟩ hlt
    obtain ⟨x, hxok⟩ := x
    have hstep : varsC [] (((pre ++ [(⟨x, hxok⟩ : { x : TV // x.ok = true })]).map Subtype.val).map TV.nd) = (if x.k = 1 then stpN (varsC [] ((pre.map Subtype.val).map TV.nd)) x.N else varsC [] ((pre.map Subtype.val).map TV.nd)) := by
      rw [List.map_append, List.map_append, varsC, stepsN_append]; rfl
    have hcl : (varsC [] ((pre.map Subtype.val).map TV.nd)).length ≤ 4194304 := by
      have := varsC_len [] ((pre.map Subtype.val).map TV.nd)
      simp only [List.length_map, List.length_nil] at this
      omega
    generalize varsC [] ((pre.map Subtype.val).map TV.nd) = c at *
    have hpl2 : (pre ++ [(⟨x, hxok⟩ : { x : TV // x.ok = true })]).length ≤ (parts t).length := by simp; omega
    have HST := hide hstep
    clear hstep
    simp only at bX
    have c0 := bX.c0
    have c1 := bX.c1
    have c2 := bX.c2
    have c3 := bX.c3
    by_cases hk : x.k = 1
    · have hk' : (x.k != 1) = false := by simp [hk]
      obtain ⟨h0, hN1⟩ : 0 ≤ x.N ∧ x.N ≤ 1099511627776 := by
        have h := hxok
        unfold TV.ok at h
        rw [hk] at h
        exact wm_var h
      have HK := hide hk
      have hlook := hI.set.look h0 hN1
      obtain ⟨m0, -⟩ := one_cell hI.set.box
      by_cases hN : x.N ∈ c
      · rw [decide_eq_true hN] at hlook
        have HN := hide hN
        have HI := hide hI
        clear hk hN hI
        gi_wp2
        refine ⟨(KeepsOthers.alloc _ _).from _, (Kp.refl _ _ W).alloc _, ?_, hpl2, by simp; omega⟩
        rw [unhide HST, if_pos (unhide HK)]
        unfold stpN
        rw [if_pos (unhide HN)]
        exact (unhide HI).alloc _
      · rw [decide_eq_false hN] at hlook
        have hIa := hI.alloc (.cells #[] 82)
        obtain ⟨Wm, hput, hgm, hsm⟩ := hIa.set.put (by omega) h0 hN1 hN
        obtain ⟨v, hb, hv⟩ := hIa.row
        have hszm : W.heap.size + 1 ≤ Wm.heap.size := by have := hgm.size; simp at this; omega
        have hcm : ∀ (g : Nat) (o : Obj), (W.alloc (.cells #[] 82)).heap[g]? = some o → o.isCells = true → Wm.heap[g]? = some o := fun g o hg ho => by
          refine (hgm.block g (Array.getElem?_eq_some_iff.1 hg).1 fun e => ?_).trans hg
          have e' : g = W1.heap.size + 1 := by simpa using e
          subst e'
          obtain ⟨E, ⟨es, clock, em, _⟩, _⟩ := hIa.set.map
          rw [em] at hg
          cases hg
          cases ho
        have hvm : OwnN w.heap.size Wm v c := hv.kept fun g hg => by
          obtain ⟨_, cur, hc⟩ := ownN_cells hv g hg
          rw [hc]
          exact hcm g _ hc rfl
        have hbm : Boxed Wm W1.heap.size 66 v := hcm _ _ hb rfl
        have bXm : BoxT Wm Bx x := hcm _ _ (bX.alloc _) rfl
        have bXa := bX.alloc (.cells #[] 82)
        obtain ⟨ma, -⟩ := one_cell hIa.set.box
        have e0 := bXa.c0
        have e1 := bXa.c1
        have f1 := bXm.c1
        obtain ⟨va, vc, rfl⟩ := hv.slice
        have cR := hbm.cell
        have fR := hbm.frozen
        have hvn : OwnN w.heap.size (Wm.alloc (.cells #[.int .i64 x.N] 2)) (.slice va c.length vc) c := World.ownsRow.alloc hvm _
        have hBm : Below w.heap.size w Wm := hIa.below.grown hgm hIa.below.size (fun k e => by cases e; omega)
        have hnew : (Wm.alloc (.cells #[.int .i64 x.N] 2)).cell? ⟨Wm.heap.size, 0, none⟩ = some (.int .i64 x.N) := by simp
        gi_wp2_with (gi_at_builtin; go_must (refine append_num_in rfl _ _ rfl rfl rfl hvn hnew hcl (by have := hBm.size; simp; omega) ?_; intro v5 W5 hv5 hg5; obtain ⟨a5, k5, rfl⟩ := hv5.slice; have hb5 := num_box hbm hvn hg5; have g0 := hb5.cell; have g1 := hb5.frozen))
        have hkeep : ∀ (k : Nat) (o : Obj), W.heap[k]? = some o → k ≠ W1.heap.size + 1 → (∀ c fz, o ≠ .cells c 2 fz) → k ≠ W1.heap.size → (W5.setCell ⟨W1.heap.size, 0, none⟩ (.slice a5 (c.length + 1) k5)).heap[k]? = some o := fun k o hk hk1 ho hk2 => by
          rw [Below.heap_setCell _ _ _ _ (by simpa using hk2)]
          refine num_keeps hvn hg5 ?_ ho
          have hkl := (Array.getElem?_eq_some_iff.1 hk).1
          rw [Below.heap_alloc _ _ _ (by omega), hgm.block k (by simp; omega) (by simpa using hk1), Below.heap_alloc _ _ _ hkl]
          exact hk
        have hsz5 : W.heap.size ≤ W5.heap.size := by have := hg5.size; simp at this; omega
        have hlbs : W1.heap.size < W.heap.size := by omega
        have hB5 : Below w.heap.size w (W5.setCell ⟨W1.heap.size, 0, none⟩ (.slice a5 (c.length + 1) k5)) := ((hBm.alloc hBm.size _).grown hg5 (by have := hBm.size; simp; omega) (fun k e => (hvn.lt e).1)).setCell (p := ⟨W1.heap.size, 0, none⟩) (by simp; omega) _
        refine ⟨⟨by simpa using hsz5, fun k o hk hko hc => hkeep k o hko (by omega) (fun c fz e => by subst e; cases hc) (by omega)⟩, ⟨by simpa using hsz5, fun i o hi ha hc => ?_⟩, ?_, hpl2, by simp; omega⟩
        · rcases hi with hi | ⟨hi, ht⟩
          · rw [hB5.block i hi, ← ha, hI.below.block i hi]
          · exact hkeep i o ha (by omega) (fun c fz e => by subst e; simp [tmCells] at ht) (by omega)
        · rw [unhide HST, if_pos (unhide HK)]
          unfold stpN
          rw [if_neg hN]
          refine ⟨⟨_, hb5.set _, ?_⟩, ?_, hB5⟩
          · have hl2 : (c ++ [x.N]).length = c.length + 1 := by simp
            rw [hl2] at hv5
            refine hv5.kept fun g hg => Below.heap_setCell _ _ _ _ fun e => ?_
            obtain ⟨_, cur, hc⟩ := ownN_cells hv5 g hg
            have e' : g = W1.heap.size := e
            rw [e', show W5.heap[W1.heap.size]? = _ from hb5] at hc
            cases hc
          · refine setI_keep hsm ?_ ?_
            · rw [Below.heap_setCell _ _ _ _ (by simp), num_keeps hvn hg5 (o := Wm.heap[W1.heap.size + 1]'(hsm.lt.1)) (by rw [Below.heap_alloc _ _ _ hsm.lt.1]; exact Array.getElem?_eq_getElem _) ?_]
              · exact (Array.getElem?_eq_getElem hsm.lt.1).symm
              · intro c' fz e
                obtain ⟨E, ⟨es, clock, em, _⟩, _⟩ := hsm.map
                rw [Array.getElem?_eq_getElem hsm.lt.1, e] at em
                cases em
            · rw [Below.heap_setCell _ _ _ _ (by simp; omega), hsm.box]
              exact num_keeps hvn hg5 ((Below.heap_alloc _ _ _ hsm.lt.2).trans hsm.box) (fun c' fz e => by cases e)
    · have hk' : (x.k != 1) = true := by simp [hk]
      have HK := hide hk
      clear hk
      gi_wp2
      refine ⟨KeepsFrom.refl _ _, Kp.refl _ _ W, ?_, hpl2, hw3⟩
      rw [unhide HST, if_neg (unhide HK)]
      exact hI
  case done =>
    rintro D ys W hD hys ⟨hI, _, _⟩ hK
    rw [hys] at hI
    have hcc : varsC [] ((parts t).map TV.nd) = varsC [] (code t) := rfl
    rw [hcc] at hI
    obtain ⟨cv, hcv⟩ : ∃ cv, varsC [] (code t) = cv := ⟨_, rfl⟩
    rw [hcv] at hI
    have HCV := hide hcv
    clear hcv hcc
    obtain ⟨v, hb, hv⟩ := hI.row
    obtain ⟨va, vc, rfl⟩ := hv.slice
    have cR := hb.cell
    have fR := hb.frozen
    gi_wp2
    refine ⟨by simp, .inl ⟨_, _, rfl, run_takeDeferred hK, ?_⟩⟩
    have hfin := OwC.put (varI_own (β := Unit) (w := w) (lb := W1.heap.size) (mb := W1.heap.size + 1) (bb := W1.heap.size + 1 + 1) (Bz := W4.heap.size) (by omega) (by omega) (fun _ => cv)) (s := ()) hI hK hD rfl (.deferred none)
    have hby : OwnN w.heap.size (W.putObj D (.deferred none)) (.slice va cv.length vc) cv := hv.kept fun g hg => by
      obtain ⟨_, cur, hc⟩ := ownN_cells hv g hg
      refine World.putObj_heap_other fun e => ?_
      rw [e, hK] at hc
      cases hc
    exact ⟨.tuple #[.slice va cv.length vc, .int .i64 0], by simp [results, Try.f38, go_sem], _, rfl, by rw [unhide HCV]; exact hby, hfin.below⟩
  case stop => rintro D c pre W hD hpre h; exact h.elim
theorem vars_any {d : Nat} (t : Tm d) (w : World) (hT : IsT w.heap.size w t) (hok : okT t = true) (hl : (parts t).length ≤ 4194304) :
    Calls Try.prog 38 #[t.tv.val] w fun e W' => ∃ v, e = .returned (.tuple #[v, .int .i64 0]) ∧ OwnN w.heap.size W' v (varsC [] (code t)) ∧ Below w.heap.size w W' :=
  callsIn_wide.1 (vars_in 4 (Nat.le_refl _) t w hT hok hl)

set_option maxRecDepth 100000 in
set_option maxHeartbeats 1000000 in
theorem vars_bad {d : Nat} (t : Tm d) (w : World) (hT : IsT w.heap.size w t) (hok : okT t = false) :
    Calls Try.prog 38 #[t.tv.val] w fun e W' => e = .returned (.tuple #[.slice none 0 0, .int .i64 2]) ∧ Below w.heap.size w W' := by
  have hB1 := (Below.refl _ w).alloc (Nat.le_refl _) (.cells #[.int .i64 t.tv.k, .int .i64 t.tv.N, .string t.tv.s, .slice t.tv.a t.tv.len t.tv.cap] 24)
  have hch := check_any t _ ((hT.below hB1).mono hB1.size)
  rw [chk_no hok] at hch
  clear hT hok
  simp only [TV.val] at hch ⊢
  go_enter Try.func38, Try.ntmps38
  go_wp2_with fail
  refine hch.mono ?_
  clear hch
  rintro e W1 ⟨rfl, hb1⟩
  have hB : Below w.heap.size w W1 := hB1.trans (hb1.mono hB1.size)
  clear hB1 hb1
  go_wp2_with fail
  exact bodyPost_ret (v := .tuple #[.slice none 0 0, .int .i64 2]) (by simp [results, Try.results38, go_sem]) rfl ⟨rfl, hB⟩
end Go.Proofs.Ytcdgmjpgmiehcaa

