import Derived.Test.YtjdanfhbccpnpaaDoorXs
import Derived.Test.YtjdanfhbccpnpaaDoorNqs
import Derived.Maps.RangeWalk
import Derived.Maps.OwnSet
import Derived.Maps.Views
/- Rows of numbers: the contracts of hornref.Has and hornref.SameNumbers. -/
namespace Go.Proofs.YtjdanfhbccpnpaaDoor
open Go.RowKit Go.Shelf Go.Maps

def i64s (l : List Int) : List Value := l.map (Value.int .i64)
/-- Numbers that lie in a row. -/
def IsN (W : World) (a : Option Addr) (len : Nat) (ns : List Int) : Prop :=
  len = ns.length ∧ len ≤ 1152921504606846976 ∧ (ns = [] ∨ ∃ b off, a = some ⟨b, off, none⟩ ∧ b < W.heap.size ∧ ∀ (j : Nat) N, ns[j]? = some N → W.cell? ⟨b, off + j, none⟩ = some (.int .i64 N))
theorem IsN.below {W W' : World} {a : Option Addr} {len : Nat} {ns : List Int} (h : IsN W a len ns) (hb : Below W.heap.size W W') : IsN W' a len ns := by
  obtain ⟨h1, h2, h3⟩ := h
  refine ⟨h1, h2, ?_⟩
  rcases h3 with h3 | ⟨b, off, ha, hlt, hk⟩
  · exact .inl h3
  · exact .inr ⟨b, off, ha, Nat.lt_of_lt_of_le hlt hb.size, fun j N hj => (hb.cell (p := ⟨b, off + j, none⟩) hlt).trans (hk j N hj)⟩
/-- A row of numbers of the call's own. -/
def OwnN (base : Nat) (W : World) (v : Value) (ns : List Int) : Prop := W.ownsRow base 2 1 v ns.length (i64s ns)
theorem OwnN.isN {base : Nat} {W : World} {v : Value} {ns : List Int} (h : OwnN base W v ns) (hl : ns.length ≤ 1152921504606846976) : ∃ a cap, v = .slice a ns.length cap ∧ IsN W a ns.length ns := by
  obtain ⟨_, h2⟩ := h
  rcases h2 with ⟨hv, hn⟩ | ⟨g, cap, cur, hv, hg, hb, _, _, _, htk⟩
  · exact ⟨none, 0, by rw [hv, hn], rfl, hl, .inl (List.length_eq_zero_iff.1 hn)⟩
  · refine ⟨_, cap, hv, rfl, hl, .inr ⟨g, 0, rfl, (Array.getElem?_eq_some_iff.1 hb).1, fun j N hj => ?_⟩⟩
    have hj' : (i64s ns)[j]? = some (.int .i64 N) := by unfold i64s; rw [List.getElem?_map, hj]; rfl
    rw [← htk, List.getElem?_take] at hj'
    split at hj'
    · simp [World.cell?, hb]
      simpa using hj'
    · cases hj'
theorem OwnN.nil (base : Nat) (W : World) : OwnN base W (.slice none 0 0) [] := ⟨rfl, .inl ⟨rfl, rfl⟩⟩
/-- The j-th number. -/
theorem num_at {W : World} {a : Option Addr} {len : Nat} {ns : List Int} (h : IsN W a len ns) {j : Nat} (hj : j < len) : ∃ N b off, ns[j]? = some N ∧ a = some ⟨b, off, none⟩ ∧ W.cell? ⟨b, off + j, none⟩ = some (.int .i64 N) := by
  obtain ⟨h1, _, h3⟩ := h
  obtain ⟨N, hN⟩ : ∃ N, ns[j]? = some N := ⟨ns[j]'(by omega), List.getElem?_eq_getElem (by omega)⟩
  have hne : ns ≠ [] := by rintro rfl; simp at hN
  obtain ⟨b, off, ha, _, hk⟩ := h3.resolve_left hne
  exact ⟨N, b, off, hN, ha, hk j N hN⟩

/-- What Has answers. -/
def hasI (ns : List Int) (N : Int) : Int := if N ∈ ns then (ns.idxOf N : Nat) else -1
theorem hasI_at {ns : List Int} {N : Int} {j : Nat} (h : ns[j]? = some N) (hn : ∀ i M, ns[i]? = some M → i < j → M ≠ N) : hasI ns N = (j : Nat) := by
  unfold hasI
  rw [if_pos (List.mem_of_getElem? h)]
  obtain ⟨hj, hjN⟩ := List.getElem?_eq_some_iff.1 h
  have h1 : ns.idxOf N < ns.length := List.idxOf_lt_length_of_mem (List.mem_of_getElem? h)
  have h2 : ns[ns.idxOf N] = N := List.getElem_idxOf h1
  have h3 : ¬ ns.idxOf N < j := fun hlt => hn _ _ (List.getElem?_eq_getElem h1) hlt h2
  have h4 : ¬ j < ns.idxOf N := fun hlt => by
    have := List.not_of_lt_findIdx (p := (· == N)) (xs := ns) (i := j) hlt
    simp [hjN] at this
  have : ns.idxOf N = j := by omega
  rw [this]
theorem hasI_no {ns : List Int} {N : Int} (h : N ∉ ns) : hasI ns N = -1 := if_neg h
theorem hasI_neg {ns : List Int} {N : Int} : hasI ns N < 0 ↔ N ∉ ns := by
  unfold hasI
  split <;> simp_all

set_option maxRecDepth 100000 in
set_option maxHeartbeats 1000000 in
theorem has_any (ns : List Int) (a : Option Addr) (len cap : Nat) (N : Int) (w : World) (hn : IsN w a len ns) :
    Calls Tryd.prog 38 #[.slice a len cap, .int .i64 N] w fun e W' => e = .returned (.int .i64 (hasI ns N)) ∧ Below w.heap.size w W' := by
  have h1 := hn.1
  have h2 := hn.2.1
  have hl1 : len ≤ ns.length := by omega
  have hl2 : ns.length ≤ len := by omega
  clear h1
  have HN := hide hn
  clear hn
  go_enter Tryd.func38, Tryd.ntmps38
  go_wp2_with fail
  go_loop [5] (fun i => ∃ j : Nat, j ≤ len ∧ i = .int .i64 j ∧ ∀ (i : Nat) M, ns[i]? = some M → i < j → M ≠ N) (fun i => len - (intOf i).toNat)
  case atStart => exact ⟨0, Nat.zero_le _, rfl, fun i M _ h => by omega⟩
  case round =>
    obtain ⟨j, hj, rfl, hs⟩ := hrel
    have HS := hide hs
    clear hs
    by_cases hlt : j < len
    · obtain ⟨M, b, off, hM, rfl, c0⟩ := num_at (unhide HN) hlt
      have HM := hide hM
      clear hM
      have hj1 : (j : Int) < len := by omega
      by_cases hV : M = N
      · have hV' : (M == N) = true := by simp [hV]
        have HV := hide hV
        clear hV
        go_wp2_with fail
        go_ret
        exact ⟨by rw [hasI_at (by rw [← unhide HV]; exact unhide HM) (unhide HS)]; rfl, Below.refl _ _⟩
      · have hV' : (M == N) = false := by simp [hV]
        have HV := hide hV
        clear hV
        go_wp2_with fail
        go_round
        case rel => exact ⟨j + 1, by omega, by go_num, fun i q hq hi => by
          by_cases e : i = j
          · subst e; rw [unhide HM] at hq; cases hq; exact unhide HV
          · exact (unhide HS) i q hq (by omega)⟩
        case measure => simp [intOf]; omega
    · have hno : N ∉ ns := fun h => by
        obtain ⟨i, hi⟩ := List.mem_iff_getElem?.1 h
        exact (unhide HS) i N hi (by have := (List.getElem?_eq_some_iff.1 hi).1; omega) rfl
      have HNO := hide hno
      clear hno
      go_wp2_with fail
      go_ret
      exact ⟨by rw [hasI_no (unhide HNO)]; rfl, Below.refl _ _⟩

end Go.Proofs.YtjdanfhbccpnpaaDoor

/- The contracts of hornref.vars and of hornref.Vars at one term: the variables, in the order of their coming. -/
namespace Go.Proofs.YtjdanfhbccpnpaaDoor
open Go.RowKit Go.Shelf Go.Maps

theorem Tryd.infoN : (Tryd.prog.info? 2).map (fun i => (i.zero, i.size, i.bytes)) = some (some (.int .i64 0), 1, 8) := by kernel_rfl
theorem OwnN.kept {base : Nat} {W W' : World} {v : Value} {ns : List Int} (h : OwnN base W v ns) (hb : ∀ g, v.ownBlock = some g → W'.heap[g]? = W.heap[g]?) : OwnN base W' v ns := owns_below h hb
theorem OwnN.lt {base : Nat} {W : World} {v : Value} {ns : List Int} (h : OwnN base W v ns) {g : Nat} (hg : v.ownBlock = some g) : base ≤ g ∧ g < W.heap.size := owns_lt h hg
theorem OwnN.slice {base : Nat} {W : World} {v : Value} {ns : List Int} (h : OwnN base W v ns) : ∃ a cap, v = .slice a ns.length cap := by
  obtain ⟨_, h2⟩ := h
  rcases h2 with ⟨hv, hn⟩ | ⟨g, cap, cur, hv, _⟩
  · exact ⟨none, 0, by rw [hv, hn]⟩
  · exact ⟨_, cap, hv⟩
/-- A row that has grown: the row, and that of what lay only the row's own block may be another. -/
structure GrownN (base : Nat) (v : Value) (W : World) (v' : Value) (ns : List Int) (W' : World) : Prop where
  own : OwnN base W' v' ns
  grb : GrB (fun k => v.ownBlock = some k) W.heap.size W W'
  blk : v'.ownBlock = v.ownBlock ∨ ∀ g, v'.ownBlock = some g → W.heap.size ≤ g
theorem GrownN.refl {base : Nat} {v : Value} {W : World} {ns : List Int} (h : OwnN base W v ns) : GrownN base v W v ns W := ⟨h, GrB.refl _ _ _, .inl rfl⟩
theorem GrownN.trans {base : Nat} {v v1 v2 : Value} {W W1 W2 : World} {ns ns' : List Int} (h : GrownN base v W v1 ns W1) (k : GrownN base v1 W1 v2 ns' W2) : GrownN base v W v2 ns' W2 := by
  have hs := h.grb.size
  refine ⟨k.own, h.grb.trans ⟨k.grb.os, k.grb.tape, k.grb.output, k.grb.size, fun b hb hne => k.grb.block b (by omega) fun e => ?_⟩, ?_⟩
  · rcases h.blk with e' | e'
    · exact hne (e' ▸ e)
    · have := e' b e; omega
  · rcases k.blk with e | e
    · rw [e]; exact h.blk
    · exact .inr fun g hg => by have := e g hg; omega

theorem one_new {W : World} {N : Int} : ∀ j u, ([.int .i64 N] : List Value)[j]? = some u → (W.alloc (.cells #[.int .i64 N] 2)).cell? ((⟨W.heap.size, 0, none⟩ : Addr).add j) = some u := by
  intro j u hj
  rw [addr_add, Nat.zero_add]
  match j, hj with
  | 0, hj => simp at hj; subst hj; simp
  | j + 1, hj => simp at hj
theorem one_one {N : Int} : ∀ u ∈ ([.int .i64 N] : List Value), u.oneCell' = true := by
  intro u hu
  simp at hu
  subst hu
  rfl

set_option maxRecDepth 100000 in
set_option maxHeartbeats 1000000 in
theorem rvars_var (base : Nat) (v : Value) (ns : List Int) (N : Int) (s : ByteArray) (a : Option Addr) (len cap : Nat) (w : World) (hown : OwnN base w v ns) (hbase : base ≤ w.heap.size) (hl : ns.length ≤ 4194304) (hN : N ∉ ns) :
    Calls Tryd.prog 37 #[.agg #[.int .i64 1, .int .i64 N, .string s, .slice a len cap], v] w fun e W' => ∃ v', e = .returned v' ∧ GrownN base v w v' (ns ++ [N]) W' := by
  obtain ⟨va, vc, rfl, hisN⟩ := hown.isN (by omega)
  have hB1 := (Below.refl _ w).alloc (Nat.le_refl _) (.cells #[.int .i64 1, .int .i64 N, .string s, .slice a len cap] 24)
  have hh := has_any ns va ns.length vc N _ (hisN.below hB1)
  have hneg : hasI ns N < 0 := hasI_neg.2 hN
  generalize hasI ns N = r at hh hneg
  have hown1 : OwnN base (w.alloc (.cells #[.int .i64 1, .int .i64 N, .string s, .slice a len cap] 24)) (.slice va ns.length vc) ns := hown.kept (fun g hg => hB1.block g (hown.lt hg).2)
  have hlt0 : ∀ g, (Value.slice va ns.length vc).ownBlock = some g → base ≤ g ∧ g < w.heap.size := fun g hg => hown.lt hg
  have HO := hide hown1
  have HLT := hide hlt0
  clear hisN hown hown1 hlt0 hN
  obtain ⟨i0, hi, hz0, hz1, hz2⟩ := info_parts Tryd.infoN
  go_enter Tryd.func37, Tryd.ntmps37
  go_wp2_with fail
  refine hh.mono ?_
  clear hh
  rintro e W2 ⟨rfl, hb2⟩
  have hbx : BoxT W2 w.heap.size ⟨1, N, s, a, len, cap⟩ := (hb2.block w.heap.size (by simp)).trans (BoxT.new w ⟨1, N, s, a, len, cap⟩)
  have x0 := hbx.c0
  have x1 := hbx.c1
  have x2 := hbx.c2
  have x3 := hbx.c3
  simp only at x0 x1 x2 x3
  have hbw : Below w.heap.size w W2 := hB1.trans (hb2.mono hB1.size)
  have hneg' : decide (r < 0) = true := by simpa using hneg
  have hown2 : (W2.alloc (.cells #[.int .i64 N] 2)).ownsRow base 2 1 (.slice va ns.length vc) ns.length (i64s ns) := (unhide HO).kept (fun g hg => by
    have h1 := ((unhide HLT) g hg).2
    exact (Below.heap_alloc _ _ _ (Nat.lt_of_lt_of_le h1 hbw.size)).trans (hb2.block g (by simp; omega)))
  have HBW := hide hbw
  have HB2 := hide hb2
  have HB1 := hide hB1
  clear hbx hbw hb2 hB1 HO
  go_wp2_with (at_builtin; go_must (refine wpList_append_own_at _ rfl _ _ 54 rfl base 2 i0 _ 1 8 Tryd.underlying54 hi hz0 hz1 hz2 rfl (by decide) (.slice va ns.length vc) ns.length (i64s ns) rfl hown2 ⟨W2.heap.size, 0, none⟩ 1 1 [.int .i64 N] rfl rfl one_new one_one (by unfold maxLen; omega) (by omega) (by have := (unhide HBW).size; simp; omega) ?_; intro v' w1 hown' hgrow hnil hbk))
  have hbw := unhide HBW
  have hws := hbw.size
  have hg1 : GrB (fun k => (Value.slice va ns.length vc).ownBlock = some k) w.heap.size w w1 := by
    refine (GrB.of_below hbw).trans ⟨hgrow.os, hgrow.tape, hgrow.output, ?_, fun k hk hne => ?_⟩
    · have := hgrow.size; simp at this; omega
    · rw [hgrow.block k (by simp; omega) (fun e => hne e.symm)]
      exact Below.heap_alloc _ _ _ (by omega)
  have hfin : GrownN base (.slice va ns.length vc) w v' (ns ++ [N]) w1 := by
    refine ⟨?_, hg1, ?_⟩
    · unfold OwnN
      rw [List.length_append]
      have : i64s (ns ++ [N]) = i64s ns ++ [.int .i64 N] := by simp [i64s]
      rw [this]
      exact hown'
    · rcases hbk with e | e
      · exact .inl e
      · refine .inr fun g hg => ?_
        rw [e] at hg
        simp at hg
        omega
  exact bodyPost_ret (v := v') (by simp [results, Tryd.results37, go_sem]) rfl ⟨_, rfl, hfin⟩

set_option maxRecDepth 100000 in
set_option maxHeartbeats 1000000 in
theorem rvars_old (base : Nat) (v : Value) (ns : List Int) (N : Int) (s : ByteArray) (a : Option Addr) (cap : Nat) (w : World) (hown : OwnN base w v ns) (hl : ns.length ≤ 4194304) (hN : N ∈ ns) :
    Calls Tryd.prog 37 #[.agg #[.int .i64 1, .int .i64 N, .string s, .slice a 0 cap], v] w fun e W' => ∃ v', e = .returned v' ∧ GrownN base v w v' ns W' := by
  obtain ⟨va, vc, rfl, hisN⟩ := hown.isN (by omega)
  have hB1 := (Below.refl _ w).alloc (Nat.le_refl _) (.cells #[.int .i64 1, .int .i64 N, .string s, .slice a 0 cap] 24)
  have hh := has_any ns va ns.length vc N _ (hisN.below hB1)
  have hneg : ¬ hasI ns N < 0 := fun h => (hasI_neg.1 h) hN
  generalize hasI ns N = r at hh hneg
  have hown1 : OwnN base (w.alloc (.cells #[.int .i64 1, .int .i64 N, .string s, .slice a 0 cap] 24)) (.slice va ns.length vc) ns := hown.kept (fun g hg => hB1.block g (hown.lt hg).2)
  have hlt0 : ∀ g, (Value.slice va ns.length vc).ownBlock = some g → base ≤ g ∧ g < w.heap.size := fun g hg => hown.lt hg
  have HO := hide hown1
  have HLT := hide hlt0
  clear hisN hown hown1 hlt0 hN
  obtain ⟨i0, hi, hz0, hz1, hz2⟩ := info_parts Tryd.infoN
  go_enter Tryd.func37, Tryd.ntmps37
  go_wp2_with fail
  refine hh.mono ?_
  clear hh
  rintro e W2 ⟨rfl, hb2⟩
  have hbx : BoxT W2 w.heap.size ⟨1, N, s, a, 0, cap⟩ := (hb2.block w.heap.size (by simp)).trans (BoxT.new w ⟨1, N, s, a, 0, cap⟩)
  have x0 := hbx.c0
  have x1 := hbx.c1
  have x2 := hbx.c2
  have x3 := hbx.c3
  simp only at x0 x1 x2 x3
  have hbw : Below w.heap.size w W2 := hB1.trans (hb2.mono hB1.size)
  have hneg' : decide (r < 0) = false := by simpa using hneg
  have hfin : GrownN base (.slice va ns.length vc) w (.slice va ns.length vc) ns W2 := ⟨(unhide HO).kept (fun g hg => hb2.block g (by have := ((unhide HLT) g hg).2; simp; omega)), GrB.of_below hbw, .inl rfl⟩
  have HF := hide hfin
  clear hbx hbw hb2 hB1 HO hfin
  go_wp2_with fail
  refine wp_loop_rounds 1 ?_
  rw [rounds_succ]
  go_wp2_with fail
  refine bodyPost_ret ?_ rfl ⟨_, rfl, unhide HF⟩
  simp [results, Tryd.results37, go_sem]

/-- The variables of a term, behind those that there are. -/
abbrev varsC (acc : List Int) (c : List Nd) : List Int := stepsN stpN acc c
theorem varsC_len (acc : List Int) (c : List Nd) : (varsC acc c).length ≤ acc.length + c.length := by
  induction c generalizing acc with
  | nil => simp [varsC, stepsN]
  | cons x c ih =>
    have e : varsC acc (x :: c) = varsC (if x.1 = 1 then stpN acc x.2.1 else acc) c := rfl
    rw [e]
    refine Nat.le_trans (ih _) ?_
    simp only [List.length_cons]
    split
    · unfold stpN
      split
      · omega
      · simp; omega
    · omega

set_option maxRecDepth 100000 in
set_option maxHeartbeats 1000000 in
theorem rvars_any (base n₀ : Nat) (hn₀ : n₀ ≤ base) : ∀ (n : Nat) (t : Tm n) (v : Value) (ns : List Int) (w : World), IsT n₀ w t → okT t = true → OwnN base w v ns → base ≤ w.heap.size → ns.length + (code t).length ≤ 4194304 →
    Calls Tryd.prog 37 #[t.tv.val, v] w fun e W' => ∃ v', e = .returned v' ∧ GrownN base v w v' (varsC ns (code t)) W' := by
  intro n
  induction n with
  | zero => intro t; exact Empty.elim t
  | succ n ih =>
    intro t v ns w hT hok hown hbase hl
    obtain ⟨⟨k, N, s, a, len, cap⟩, kids⟩ := t
    obtain ⟨hwm, hk⟩ := ok_kids hok
    obtain ⟨hlen, hmax, hsm, hkids⟩ := hT
    simp only [Tm.tv, Tm.kids] at hlen hmax hsm hkids hwm
    rw [code_succ] at hl ⊢
    have hlk : ns.length + (kids.flatMap code).length + 1 ≤ 4194304 := by simp only [List.length_cons] at hl; omega
    have est : varsC ns (TV.nd ⟨k, N, s, a, len, cap⟩ :: kids.flatMap code) = varsC (if k = 1 then stpN ns N else ns) (kids.flatMap code) := rfl
    rw [est]
    clear est
    by_cases hk1 : k = 1
    · subst hk1
      have hl0 : len = 0 := by
        rcases wm_cases hwm with ⟨_, _, _, _, h⟩ | ⟨h, _⟩ | ⟨h, _⟩
        · exact h
        · omega
        · omega
      have hk0 : kids = [] := List.length_eq_zero_iff.1 (by omega)
      subst hk0
      subst hl0
      rw [if_pos rfl]
      by_cases hN : N ∈ ns
      · have e2 : varsC (stpN ns N) (([] : List (Tm n)).flatMap code) = ns := by unfold stpN; rw [if_pos hN]; rfl
        rw [e2]
        exact rvars_old base v ns N s a cap w hown (by omega) hN
      · have e2 : varsC (stpN ns N) (([] : List (Tm n)).flatMap code) = ns ++ [N] := by unfold stpN; rw [if_neg hN]; rfl
        rw [e2]
        exact rvars_var base v ns N s a 0 cap w hown hbase (by omega) hN
    · rw [if_neg hk1]
      have hk1' : (k == 1) = false := by simp [hk1]
      simp only [Tm.tv, TV.val]
      have hl1 : len ≤ kids.length := by omega
      have hl2 : kids.length ≤ len := by omega
      have HI := hide ih
      have HO := hide hk
      have HOW := hide hown
      have hB1 := (Below.refl _ w).alloc (Nat.le_refl _) (.cells #[.int .i64 k, .int .i64 N, .string s, .slice a len cap] 24)
      have hown1 : OwnN base (w.alloc (.cells #[.int .i64 k, .int .i64 N, .string s, .slice a len cap] 24)) v ns := hown.kept (fun g hg => hB1.block g (hown.lt hg).2)
      have hbx := BoxT.new w ⟨k, N, s, a, len, cap⟩
      obtain ⟨va, vc, rfl⟩ := hown.slice
      clear ih hk hown hok hlen hwm hl hk1
      go_enter Tryd.func37, Tryd.ntmps37
      go_wp2_with fail
      obtain ⟨W1, hW1⟩ : ∃ W1, w.alloc (.cells #[.int .i64 k, .int .i64 N, .string s, .slice a len cap] 24) = W1 := ⟨_, rfl⟩
      have hsz : (w.alloc (.cells #[.int .i64 k, .int .i64 N, .string s, .slice a len cap] 24)).heap.size = w.heap.size + 1 := by simp
      rw [hW1] at hB1 hown1 hbx hsz ⊢
      clear hW1
      have HB1 := hide hB1
      have HOW1 := hide hown1
      have HBX := hide hbx
      have HSZ := hide hsz
      clear hB1 hown1 hbx hsz
      go_loopw [1, 5] (fun ov i wr => ∃ j : Nat, j ≤ len ∧ i = .int .i64 j ∧ GrownN base (.slice va ns.length vc) W1 ov (varsC ns ((kids.take j).flatMap code)) wr) (fun _ i _ => len - (intOf i).toNat)
      case atStart => exact ⟨0, Nat.zero_le _, rfl, GrownN.refl (unhide HOW1)⟩
      case round =>
        obtain ⟨j, hj, rfl, hg⟩ := hrel
        have hsz := unhide HSZ
        have hgs := hg.grb.size
        have hnb : ∀ b, b < base ∨ b = w.heap.size → ¬ (Value.slice va ns.length vc).ownBlock = some b := fun b hb e => by
          have := (unhide HOW).lt e
          omega
        have hbr : BoxT wr w.heap.size ⟨k, N, s, a, len, cap⟩ := (hg.grb.block w.heap.size (by omega) (hnb _ (.inr rfl))).trans (unhide HBX)
        have x3 := hbr.c3
        simp only at x3
        have hbw : Below n₀ w wr := ((unhide HB1).mono (by omega)).trans (hg.grb.below (n₀ := n₀) (fun b e => by have := (unhide HOW).lt e; omega) (by omega))
        have HG := hide hg
        clear hg hbr
        by_cases hlt : j < len
        · obtain ⟨u, b, off, hu, rfl, ⟨c0, c1, c2, c3⟩, hT, hbk⟩ := kid_below hkids hbw hlt hl1
          have hpre : ((kids.take j).flatMap code).length + (code u).length ≤ (kids.flatMap code).length := by
            have h1 : kids.flatMap code = (kids.take (j + 1)).flatMap code ++ (kids.drop (j + 1)).flatMap code := by rw [← List.flatMap_append, List.take_append_drop]
            rw [h1, code_take kids j u hu]
            simp only [List.length_append]
            omega
          have hvl := varsC_len ns ((kids.take j).flatMap code)
          have ihu := (unhide HI) u u1 _ wr hT ((unhide HO) u (List.mem_of_getElem? hu)) (unhide HG).own (by omega) (by omega)
          have hcode := code_take kids j u hu
          have HC := hide hcode
          clear hT hkids hu hcode
          obtain ⟨ua, uc, rfl⟩ := (unhide HG).own.slice
          simp only [TV.val] at ihu
          have hj1 : (j : Int) < len := by omega
          go_wp2_with fail
          refine ihu.mono ?_
          clear ihu
          rintro e W5 ⟨v5, rfl, hg5⟩
          have hnew := (unhide HG).trans hg5
          rw [show varsC (varsC ns ((kids.take j).flatMap code)) (code u) = varsC ns ((kids.take (j + 1)).flatMap code) by rw [unhide HC]; exact (stepsN_append _ _ _ _).symm] at hnew
          have HN := hide hnew
          obtain ⟨wa, wc, rfl⟩ := hg5.own.slice
          clear hg5 hnew
          go_wp2_with fail
          exact ⟨⟨j + 1, by omega, by go_num, unhide HN⟩, by simp [intOf]; omega⟩
        · have ht : kids.take j = kids := List.take_of_length_le (by omega)
          have hm := unhide HG
          rw [ht] at hm
          have hfin : GrownN base (.slice va ns.length vc) w u1 (varsC ns (kids.flatMap code)) wr := by
            refine ⟨hm.own, (GrB.of_below (unhide HB1)).trans (hm.grb.mono (by omega)), ?_⟩
            rcases hm.blk with e | e
            · exact .inl e
            · exact .inr fun g hg => by have := e g hg; omega
          have HF := hide hfin
          obtain ⟨ua, uc, rfl⟩ := (unhide HG).own.slice
          clear hm ht hkids hfin
          go_wp2_with fail
          refine bodyPost_ret ?_ rfl ⟨_, rfl, unhide HF⟩
          simp [results, Tryd.results37, go_sem]

set_option maxRecDepth 100000 in
set_option maxHeartbeats 1000000 in
/-- hornref.Vars at one term. -/
theorem rVars_one {n : Nat} (t : Tm n) (b off c : Nat) (w : World) (hT : IsT w.heap.size w t) (hc : cellsAt w b off t.tv) (hok : okT t = true) (hl : (code t).length ≤ 4194304) :
    Calls Tryd.prog 27 #[.slice (some ⟨b, off, none⟩) 1 c] w fun e W' => ∃ v, e = .returned v ∧ Below w.heap.size w W' ∧ OwnN w.heap.size W' v (varsC [] (code t)) := by
  obtain ⟨c0, c1, c2, c3⟩ := hc
  have hv := rvars_any w.heap.size w.heap.size (Nat.le_refl _) n t (.slice none 0 0) [] w hT hok (OwnN.nil _ _) (Nat.le_refl _) (by simpa using hl)
  clear hT hok hl
  simp only [TV.val] at hv
  go_enter Tryd.func27, Tryd.ntmps27
  go_wp2_with fail
  refine wp_loop_rounds 2 ?_
  rw [rounds_succ]
  go_wp2_with fail
  refine hv.mono ?_
  clear hv
  rintro e W1 ⟨v, rfl, hg⟩
  have hfin : Below w.heap.size w W1 ∧ OwnN w.heap.size W1 v (varsC [] (code t)) := ⟨hg.grb.below (n₀ := w.heap.size) (fun k e => by cases e) (Nat.le_refl _), hg.own⟩
  obtain ⟨va, vc, rfl⟩ := hg.own.slice
  have HF := hide hfin
  clear hfin hg
  go_wp2_with fail
  rw [rounds_succ]
  go_wp2_with fail
  refine bodyPost_ret ?_ rfl ⟨_, rfl, unhide HF⟩
  simp [results, Tryd.results27, go_sem]
end Go.Proofs.YtjdanfhbccpnpaaDoor

