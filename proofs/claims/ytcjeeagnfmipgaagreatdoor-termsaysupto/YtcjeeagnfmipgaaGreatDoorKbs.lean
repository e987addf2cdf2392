import Derived.Test.YtcjeeagnfmipgaaGreatDoorSs
import Derived.Test.YtcjeeagnfmipgaaGreatDoorNss
import Derived.BigRegion
import Derived.Test.YtcjeeagnfmipgaaGreatDoorXs
import Derived.Deep.RegionHeld3
/- Substituting twice. -/
namespace Go.Proofs.YtcjeeagnfmipgaaGreatDoor
open Go.RowKit Go.Shelf

theorem sub_varNd (σ : Int → List Nd) (N : Int) : [varNd N].flatMap (subN σ) = σ N := by simp [subN, varNd]
theorem sub_sub (σ τ : Int → List Nd) (c : List Nd) : (c.flatMap (subN σ)).flatMap (subN τ) = c.flatMap (subN fun N => (σ N).flatMap (subN τ)) := by
  rw [List.flatMap_assoc]
  refine flatMap_same c fun x _ => ?_
  unfold subN
  by_cases h : x.1 = 1
  · rw [if_pos h, if_pos h]
  · rw [if_neg h, if_neg h]
    simp [h]
end Go.Proofs.YtcjeeagnfmipgaaGreatDoor

/- Numbering variables: mathematics. -/
namespace Go.Proofs.YtcjeeagnfmipgaaGreatDoor
open Go.RowKit Go.Shelf

def stpN (c : List Int) (N : Int) : List Int := if N ∈ c then c else c ++ [N]
def renN (f : Int) (c : List Int) (N : Int) : List Nd := [varNd (f + (c.idxOf N : Nat))]
theorem stpN_ext (c : List Int) (N : Int) : ∃ d, stpN c N = c ++ d := by
  unfold stpN
  split
  · exact ⟨[], by simp⟩
  · exact ⟨[N], rfl⟩
theorem stpN_mem (c : List Int) (N : Int) : N ∈ stpN c N := by
  unfold stpN
  split
  · assumption
  · simp
theorem stepsN_ext : ∀ (l : List Nd) (c : List Int), ∃ d, stepsN stpN c l = c ++ d
  | [], c => ⟨[], by simp [stepsN]⟩
  | x :: l, c => by
    have e : stepsN stpN c (x :: l) = stepsN stpN (if x.1 = 1 then stpN c x.2.1 else c) l := rfl
    rw [e]
    obtain ⟨d, hd⟩ := stepsN_ext l (if x.1 = 1 then stpN c x.2.1 else c)
    rw [hd]
    split
    · obtain ⟨d', hd'⟩ := stpN_ext c x.2.1
      exact ⟨d' ++ d, by rw [hd', List.append_assoc]⟩
    · exact ⟨d, rfl⟩
theorem idxOf_ext {c : List Int} {N : Int} (h : N ∈ c) (d : List Int) : (c ++ d).idxOf N = c.idxOf N := by
  rw [List.idxOf_append, if_pos h]

theorem varV_holds (M : Int) (lo : Nat) (W : World) : HoldsT 1 lo W (varV M).val [varNd M] := by
  have hh := holds_leaf (varV M) rfl rfl rfl (by simp [varV, ByteArray.size]) lo W
  rw [varV_nd] at hh
  exact hh
end Go.Proofs.YtcjeeagnfmipgaaGreatDoor

/- A term renumbered, by its code: mathematics. -/
namespace Go.Proofs.YtcjeeagnfmipgaaGreatDoor
open Go.RowKit Go.Shelf

/-- The variables of a row of parts get numbers from f on, in the order of their coming. -/
def canon (f : Int) (c : List Nd) : List Nd := c.flatMap (subN (renN f (stepsN stpN [] c)))
def IsVarOf (c : List Nd) (N : Int) : Prop := ∃ x ∈ c, x.1 = 1 ∧ x.2.1 = N
theorem sub_congr_on {σ τ : Int → List Nd} {c : List Nd} (h : ∀ N, IsVarOf c N → σ N = τ N) : c.flatMap (subN σ) = c.flatMap (subN τ) :=
  flatMap_same c fun x hx => by
    unfold subN
    by_cases hk : x.1 = 1
    · rw [if_pos hk, if_pos hk, h _ ⟨x, hx, hk, rfl⟩]
    · rw [if_neg hk, if_neg hk]
theorem steps_mem : ∀ (c : List Nd) (acc : List Int) (N : Int), N ∈ stepsN stpN acc c ↔ N ∈ acc ∨ IsVarOf c N
  | [], acc, N => by simp [stepsN, IsVarOf]
  | x :: c, acc, N => by
    have e : stepsN stpN acc (x :: c) = stepsN stpN (if x.1 = 1 then stpN acc x.2.1 else acc) c := rfl
    rw [e, steps_mem c]
    have hv : IsVarOf (x :: c) N ↔ (x.1 = 1 ∧ x.2.1 = N) ∨ IsVarOf c N := by
      unfold IsVarOf
      constructor
      · rintro ⟨y, hy, h⟩
        rcases List.mem_cons.1 hy with rfl | hy
        · exact .inl h
        · exact .inr ⟨y, hy, h⟩
      · rintro (h | ⟨y, hy, h⟩)
        · exact ⟨x, by simp, h⟩
        · exact ⟨y, by simp [hy], h⟩
    rw [hv]
    by_cases hk : x.1 = 1
    · rw [if_pos hk]
      unfold stpN
      split
      · rename_i hm
        constructor
        · rintro (h | h)
          · exact .inl h
          · exact .inr (.inr h)
        · rintro (h | ⟨_, rfl⟩ | h)
          · exact .inl h
          · exact .inl hm
          · exact .inr h
      · constructor
        · rintro (h | h)
          · rcases List.mem_append.1 h with h | h
            · exact .inl h
            · simp at h; exact .inr (.inl ⟨hk, h.symm⟩)
          · exact .inr (.inr h)
        · rintro (h | ⟨_, rfl⟩ | h)
          · exact .inl (List.mem_append_left _ h)
          · exact .inl (List.mem_append_right _ (by simp))
          · exact .inr h
    · rw [if_neg hk]
      constructor
      · rintro (h | h)
        · exact .inl h
        · exact .inr (.inr h)
      · rintro (h | ⟨h, _⟩ | h)
        · exact .inl h
        · exact (hk h).elim
        · exact .inr h
end Go.Proofs.YtcjeeagnfmipgaaGreatDoor

/- What is renamed is numbered as what was not: mathematics. -/
namespace Go.Proofs.YtcjeeagnfmipgaaGreatDoor
open Go.RowKit Go.Shelf

/-- A renaming that keeps unlike variables unlike. -/
def InjOn (ρ : Int → Int) (P : Int → Prop) : Prop := ∀ M N, P M → P N → ρ M = ρ N → M = N
theorem idxOf_map {ρ : Int → Int} : ∀ (l : List Int) (N : Int), (∀ M ∈ l, ρ M = ρ N → M = N) → (l.map ρ).idxOf (ρ N) = l.idxOf N
  | [], N, _ => rfl
  | M :: l, N, h => by
    rw [List.map_cons, List.idxOf_cons, List.idxOf_cons]
    by_cases e : M = N
    · subst e; simp
    · have e' : ¬ ρ M = ρ N := fun h' => e (h M (by simp) h')
      simp only [beq_eq_false_iff_ne.2 e, beq_eq_false_iff_ne.2 e']
      rw [idxOf_map l N fun M hM => h M (by simp [hM])]
theorem steps_ren {ρ : Int → Int} {P : Int → Prop} (hρ : InjOn ρ P) : ∀ (c : List Nd) (acc : List Int), (∀ N ∈ acc, P N) → (∀ N, IsVarOf c N → P N) → stepsN stpN (acc.map ρ) (c.flatMap (subN fun N => [varNd (ρ N)])) = (stepsN stpN acc c).map ρ
  | [], acc, _, _ => rfl
  | x :: c, acc, ha, hc => by
    have hc' : ∀ N, IsVarOf c N → P N := fun N ⟨y, hy, h⟩ => hc N ⟨y, by simp [hy], h⟩
    rw [List.flatMap_cons, stepsN_append]
    have e : stepsN stpN acc (x :: c) = stepsN stpN (if x.1 = 1 then stpN acc x.2.1 else acc) c := rfl
    rw [e]
    by_cases hk : x.1 = 1
    · have hP : P x.2.1 := hc _ ⟨x, by simp, hk, rfl⟩
      rw [if_pos hk]
      have e1 : stepsN stpN (acc.map ρ) (subN (fun N => [varNd (ρ N)]) x) = (stpN acc x.2.1).map ρ := by
        unfold subN
        rw [if_pos hk]
        show stpN (acc.map ρ) (ρ x.2.1) = _
        unfold stpN
        by_cases hm : x.2.1 ∈ acc
        · rw [if_pos hm, if_pos (List.mem_map.2 ⟨_, hm, rfl⟩)]
        · rw [if_neg hm, if_neg]
          · simp
          · intro h
            obtain ⟨M, hM, e⟩ := List.mem_map.1 h
            exact hm (hρ M _ (ha M hM) hP e ▸ hM)
      rw [e1]
      refine steps_ren hρ c _ (fun N hN => ?_) hc'
      unfold stpN at hN
      split at hN
      · exact ha N hN
      · rcases List.mem_append.1 hN with hN | hN
        · exact ha N hN
        · simp at hN; subst hN; exact hP
    · rw [if_neg hk]
      have e1 : stepsN stpN (acc.map ρ) (subN (fun N => [varNd (ρ N)]) x) = acc.map ρ := by
        unfold subN
        rw [if_neg hk]
        show (if x.1 = 1 then _ else _) = _
        rw [if_neg hk]
      rw [e1]
      exact steps_ren hρ c acc ha hc'
/-- What is renamed is numbered as what was not. -/
theorem canon_ren {ρ : Int → Int} {c : List Nd} (hρ : InjOn ρ (IsVarOf c)) (f : Int) : canon f (c.flatMap (subN fun N => [varNd (ρ N)])) = canon f c := by
  have h1 := steps_ren hρ c [] (fun N h => by cases h) (fun N h => h)
  rw [List.map_nil] at h1
  unfold canon
  rw [h1, sub_sub]
  refine sub_congr_on fun N hN => ?_
  rw [sub_varNd]
  unfold renN
  rw [idxOf_map]
  intro M hM e
  rcases (steps_mem c [] M).1 hM with h | h
  · cases h
  · exact hρ M N h hN e
theorem canon_canon (f : Int) (c : List Nd) : canon 0 (canon f c) = canon 0 c := by
  have : canon f c = c.flatMap (subN fun N => [varNd (f + ((stepsN stpN [] c).idxOf N : Nat))]) := rfl
  rw [this]
  refine canon_ren (ρ := fun N => f + ((stepsN stpN [] c).idxOf N : Nat)) (fun M N hM hN e => ?_) 0
  have hM' := (steps_mem c [] M).2 (.inr hM)
  have hN' := (steps_mem c [] N).2 (.inr hN)
  have e' : (stepsN stpN [] c).idxOf M = (stepsN stpN [] c).idxOf N := by simp only at e; omega
  have h1 := List.getElem_idxOf (List.idxOf_lt_length_of_mem hM')
  have h2 := List.getElem_idxOf (List.idxOf_lt_length_of_mem hN')
  rw [← h1, ← h2]
  simp only [e']
end Go.Proofs.YtcjeeagnfmipgaaGreatDoor

/- The contracts of number's closure and of term.number: variables get new numbers in the order of their coming. -/
namespace Go.Proofs.YtcjeeagnfmipgaaGreatDoor
open Go.RowKit Go.Shelf Go.Maps

/-- The map of numbers given, the box that holds it, the counter. -/
structure NumI (f : Int) (mb bb nb : Nat) (c : List Int) (W : World) : Prop where
  nodup : c.Nodup
  key : ∀ N ∈ c, 0 ≤ N ∧ N ≤ 1099511627776
  box : W.heap[bb]? = some (.cells #[.map (some mb)] 120 (0, 0))
  next : W.heap[nb]? = some (.cells #[.int .i64 (f + (c.length : Nat))] 2 (0, 0))
  map : ∃ E : DataW Unit, W.ownsMap Tryz.prog 2 (plainElem Tryz.prog 2) mb c.length E ∧ (∀ N, Maps.has E (.int .i64 N) = true ↔ N ∈ c) ∧ ∀ N ∈ c, ∀ z, E.atKey (.int .i64 N) z = .lit (.int .i64 (f + (c.idxOf N : Nat)))
theorem numI_keep {f : Int} {mb bb nb lo : Nat} (h1 : mb < lo) (h2 : bb < lo) (h3 : nb < lo) {c : List Int} {W W' : World} (h : NumI f mb bb nb c W) (hb : Below lo W W') : NumI f mb bb nb c W' := by
  obtain ⟨E, ⟨es, clock, e1, e2⟩, e3⟩ := h.map
  exact ⟨h.nodup, h.key, (hb.block _ h2).trans h.box, (hb.block _ h3).trans h.next, E, ⟨es, clock, (hb.block _ h1).trans e1, e2⟩, e3⟩
theorem nodup_range {c : List Int} (hn : c.Nodup) (hk : ∀ N ∈ c, 0 ≤ N ∧ N ≤ 1099511627776) : c.length ≤ 1099511627777 := by
  have h1 := nodup_le 1099511627777 (c.map Int.toNat) (by
    rw [List.Nodup, List.pairwise_map]
    exact List.Pairwise.imp_of_mem (fun {p q} hp hq hne e => hne (by have := hk p hp; have := hk q hq; omega)) hn) (fun x hx => by
    obtain ⟨q, hq, rfl⟩ := List.mem_map.1 hx
    have := hk q hq
    omega)
  simpa using h1
theorem stately_num {f : Int} {mb bb nb n₀ lo : Nat} (h0 : n₀ ≤ lo) (h1 : n₀ ≤ mb ∧ mb < lo) (h2 : bb < lo) (h3 : n₀ ≤ nb ∧ nb < lo) : Stately (NumI f mb bb nb) (fun k => k = mb ∨ k = nb) n₀ lo stpN (renN f) where
  low := h0
  blocks := by rintro k (rfl | rfl) <;> assumption
  keep := fun s W W' h _ hb => numI_keep h1.2 h2 h3.2 h hb
  stay := fun s N l => by
    obtain ⟨d, hd⟩ := stepsN_ext l (stpN s N)
    unfold renN
    rw [hd, idxOf_ext (stpN_mem s N)]
theorem Tryz.zero2 (w : World) : (zeroValue 2).run Tryz.prog w = .ok (.int .i64 0) w := by kernel_rfl
theorem wf_i64 {N : Int} (h0 : 0 ≤ N) (h1 : N ≤ 9223372036854775807) : (Lit.int .i64 N).wf = true := by simp [Lit.wf, IntKind.min, IntKind.max, IntKind.signed, IntKind.bits]; omega
theorem numI_look {f : Int} {mb bb nb : Nat} {c : List Int} {W : World} (h : NumI f mb bb nb c W) {N : Int} (h0 : 0 ≤ N) (h1 : N ≤ 1099511627776) (hN : N ∈ c) :
    (Instr.lookup 120 (.map (some mb)) (.int .i64 N) true).run Tryz.prog W = .ok (.tuple #[.int .i64 (f + (c.idxOf N : Nat)), .bool true]) W := by
  obtain ⟨E, e1, e2, e3⟩ := h.map
  obtain ⟨v, ps, hrun, hv⟩ := e1.look_ok Tryz.keyed2 Tryz.underlying120 (Tryz.zero2 W) (plainElem_int Tryz.underlying2 (by decide)) (key_i64 h0 h1)
  rw [(e2 N).2 hN] at hrun
  rw [e3 N hN] at hv
  obtain ⟨y, rfl, hy, _⟩ := plainElem_int_inv Tryz.underlying2 hv
  simp at hy
  rw [hrun, hy.1]
theorem numI_miss {f : Int} {mb bb nb : Nat} {c : List Int} {W : World} (h : NumI f mb bb nb c W) {N : Int} (h0 : 0 ≤ N) (h1 : N ≤ 1099511627776) (hN : N ∉ c) :
    (Instr.lookup 120 (.map (some mb)) (.int .i64 N) true).run Tryz.prog W = .ok (.tuple #[.int .i64 0, .bool false]) W := by
  obtain ⟨E, e1, e2, e3⟩ := h.map
  obtain ⟨v, ps, hrun, hv⟩ := e1.look_ok Tryz.keyed2 Tryz.underlying120 (Tryz.zero2 W) (plainElem_int Tryz.underlying2 (by decide)) (key_i64 h0 h1)
  have hf : Maps.has E (.int .i64 N) = false := by
    cases hh : Maps.has E (.int .i64 N) with
    | false => rfl
    | true => exact (hN ((e2 N).1 hh)).elim
  rw [hf] at hrun
  rw [atKey_of_not_has hf] at hv
  obtain ⟨y, rfl, hy, _⟩ := plainElem_int_inv Tryz.underlying2 hv
  simp at hy
  rw [hrun, hy.1]
theorem one_cell {W : World} {b : Nat} {v : Value} {T : TypeId} (h : W.heap[b]? = some (.cells #[v] T (0, 0))) : W.cell? ⟨b, 0, none⟩ = some v ∧ W.frozen? ⟨b, 0, none⟩ = false := by
  constructor <;> simp [World.cell?, World.frozen?, h]
theorem set_one {W : World} {b : Nat} {v v' : Value} {T : TypeId} (h : W.heap[b]? = some (.cells #[v] T (0, 0))) : (W.setCell ⟨b, 0, none⟩ v').heap[b]? = some (.cells #[v'] T (0, 0)) := by
  obtain ⟨hlt, hk⟩ := Array.getElem?_eq_some_iff.1 h
  show (W.heap.modify b _)[b]? = _
  rw [Array.getElem?_eq_getElem (by rw [Array.size_modify]; exact hlt), Array.getElem_modify_self, hk]
  rfl
/-- A variable that is new: the map, and the counter behind it. -/
theorem numI_put {f : Int} {mb bb nb : Nat} {c : List Int} {W : World} (h : NumI f mb bb nb c W) (hf0 : 0 ≤ f) (hf1 : f ≤ 1099511627776) (hne : mb ≠ bb ∧ mb ≠ nb ∧ bb ≠ nb) {N : Int} (h0 : 0 ≤ N) (h1 : N ≤ 1099511627776) (hN : N ∉ c) :
    ∃ W', (Instr.mapUpdate 120 (.map (some mb)) (.int .i64 N) (.int .i64 (f + (c.length : Nat)))).run Tryz.prog W = .ok () W' ∧ W.grownBy W' (some mb) ∧ W'.heap[nb]? = some (.cells #[.int .i64 (f + (c.length : Nat))] 2 (0, 0)) ∧ NumI f mb bb nb (c ++ [N]) (W'.setCell ⟨nb, 0, none⟩ (.int .i64 (f + (c.length : Nat) + 1))) := by
  have hle := nodup_range h.nodup h.key
  obtain ⟨E, e1, e2, e3⟩ := h.map
  have hm := e1.isMap
  obtain ⟨W', hrun, f1, f2⟩ := e1.update Tryz.keyed2 Tryz.underlying120 (by unfold maxLen; omega) (key_i64 h0 h1) (plainElem_int Tryz.underlying2 (wf_i64 (N := f + (c.length : Nat)) (by omega) (by omega)))
  have hkl : WideAt.IsKeyLit (.int .i64 N) := Tryz.keyed2.key (key_i64 h0 h1)
  have hlt : ∀ {k : Nat} {o : Obj}, W.heap[k]? = some o → k < W.heap.size := fun hk => (Array.getElem?_eq_some_iff.1 hk).1
  have hnx : W'.heap[nb]? = some (.cells #[.int .i64 (f + (c.length : Nat))] 2 (0, 0)) := (f2.block nb (hlt h.next) (by simpa using hne.2.1.symm)).trans h.next
  have hbx : W'.heap[bb]? = some (.cells #[.map (some mb)] 120 (0, 0)) := (f2.block bb (hlt h.box) (by simpa using hne.1.symm)).trans h.box
  refine ⟨W', hrun, f2, hnx, ⟨?_, ?_, ?_, ?_, _, f1.setCell (a := ⟨nb, 0, none⟩) hne.2.1 _ |>.mono (by simp), ?_, ?_⟩⟩
  · rw [List.nodup_append]
    exact ⟨h.nodup, by simp, fun a ha b hb => by simp at hb; subst hb; exact fun e => hN (e ▸ ha)⟩
  · intro M hM
    rcases List.mem_append.1 hM with hM | hM
    · exact h.key M hM
    · simp at hM; subst hM; exact ⟨h0, h1⟩
  · rw [Below.heap_setCell _ _ _ _ (by simpa using hne.2.2)]; exact hbx
  · rw [set_one hnx]
    have : f + ((c ++ [N]).length : Nat) = f + (c.length : Nat) + 1 := by simp; omega
    rw [this]
  · intro M
    by_cases e : M = N
    · subst e
      rw [has_put_same hm hkl]
      simp
    · rw [has_put_other (by simpa using e), e2 M]
      simp [e]
  · intro M hM z
    by_cases e : M = N
    · subst e
      rw [atKey_put_same hm hkl]
      have : (c ++ [M]).idxOf M = c.length := by rw [List.idxOf_append, if_neg hN]; simp
      rw [this]
    · have hMc : M ∈ c := by simpa [e] using hM
      rw [atKey_put_other (by simpa using e), e3 M hMc, idxOf_ext hMc]

theorem zbox_new (W : World) : (W.alloc (.cells #[.int .i64 0, .int .i64 0, .string ⟨#[]⟩, .slice none 0 0] 24)).heap[W.heap.size]? = some (.cells #[.int .i64 0, .int .i64 0, .string ⟨#[]⟩, .slice none 0 0] 24 (0, 0)) := World.alloc_heap_new W _

set_option maxRecDepth 100000 in
set_option maxHeartbeats 1000000 in
theorem number1_old {f : Int} {mb bb nb : Nat} {c : List Int} (N : Int) (W : World) (h0 : 0 ≤ N) (h1 : N ≤ 1099511627776) (hlt : mb < W.heap.size ∧ bb < W.heap.size ∧ nb < W.heap.size) (hI : NumI f mb bb nb c W) (hN : N ∈ c) :
    Calls Tryz.prog 86 #[.int .i64 N, .pointer (some ⟨bb, 0, none⟩), .pointer (some ⟨nb, 0, none⟩)] W fun e W' => e = .returned (varV (f + (c.idxOf N : Nat))).val ∧ Below W.heap.size W W' := by
  have hB1 : Below W.heap.size W (W.alloc (.cells #[.int .i64 0, .int .i64 0, .string ⟨#[]⟩, .slice none 0 0] 24)) := (Below.refl _ W).alloc (Nat.le_refl _) _
  have hI1 := numI_keep hlt.1 hlt.2.1 hlt.2.2 hI hB1
  have hrun := numI_look hI1 h0 h1 hN
  obtain ⟨m0, -⟩ := one_cell hI1.box
  have hz := zbox_new W
  generalize hM : f + (c.idxOf N : Nat) = M at hrun ⊢
  obtain ⟨W1, hW1⟩ : ∃ W1, W.alloc (.cells #[.int .i64 0, .int .i64 0, .string ⟨#[]⟩, .slice none 0 0] 24) = W1 := ⟨_, rfl⟩
  have HW1 := hide hW1
  rw [hW1] at hB1 hz
  have HB1 := hide hB1
  have HZ := hide hz
  have hva := variable_any M W1
  rw [← hW1] at hva
  clear hI hI1 hN hM hB1 hz hW1 h0 h1 hlt
  simp only [TV.val, varV] at hva ⊢
  go_enter Tryz.func86, Tryz.ntmps86
  go_wp2_with fail
  refine hva.mono ?_
  clear hva
  rintro e W2 ⟨rfl, hb2⟩
  rw [unhide HW1] at hb2
  obtain ⟨⟨z0, z1, z2, z3⟩, y0, y1, y2, y3⟩ := zbox_kept ((hb2.block W.heap.size (Array.getElem?_eq_some_iff.1 (unhide HZ)).1).trans (unhide HZ))
  have hbf : Below W.heap.size W (set4 W2 W.heap.size 0 (varV M)) := set4_below ((unhide HB1).trans (hb2.mono (unhide HB1).size)) (Nat.le_refl _) 0 _
  have HBF := hide hbf
  clear hbf hb2
  go_wp2_with fail
  exact bodyPost_ret (v := (varV M).val) (by simp [results, Tryz.results86, go_sem, TV.val, varV, z0, z1, z2, z3]) rfl ⟨rfl, unhide HBF⟩

set_option maxRecDepth 100000 in
set_option maxHeartbeats 1000000 in
theorem number1_new {f : Int} {mb bb nb : Nat} {c : List Int} (hf0 : 0 ≤ f) (hf1 : f ≤ 1099511627776) (hne : mb ≠ bb ∧ mb ≠ nb ∧ bb ≠ nb) (N : Int) (W : World) (h0 : 0 ≤ N) (h1 : N ≤ 1099511627776) (hlt : mb < W.heap.size ∧ bb < W.heap.size ∧ nb < W.heap.size) (hI : NumI f mb bb nb c W) (hN : N ∉ c) :
    Calls Tryz.prog 86 #[.int .i64 N, .pointer (some ⟨bb, 0, none⟩), .pointer (some ⟨nb, 0, none⟩)] W fun e W' => e = .returned (varV (f + (c.length : Nat))).val ∧ GrB (fun k => k = mb ∨ k = nb) W.heap.size W W' ∧ NumI f mb bb nb (c ++ [N]) W' := by
  have hle := nodup_range hI.nodup hI.key
  have hB1 : Below W.heap.size W (W.alloc (.cells #[.int .i64 0, .int .i64 0, .string ⟨#[]⟩, .slice none 0 0] 24)) := (Below.refl _ W).alloc (Nat.le_refl _) _
  have hI1 := numI_keep hlt.1 hlt.2.1 hlt.2.2 hI hB1
  have hrun := numI_miss hI1 h0 h1 hN
  obtain ⟨m0, -⟩ := one_cell hI1.box
  obtain ⟨x0, -⟩ := one_cell hI1.next
  obtain ⟨W2, hup, hg2, hnx2, hI3⟩ := numI_put hI1 hf0 hf1 hne h0 h1 hN
  obtain ⟨x2, x2f⟩ := one_cell hnx2
  have hz := zbox_new W
  have hwr : IntKind.i64.wrap (f + (c.length : Nat) + 1) = f + (c.length : Nat) + 1 := by simp [IntKind.wrap, IntKind.bits, IntKind.signed]; omega
  have hz2 : W2.heap[W.heap.size]? = some (.cells #[.int .i64 0, .int .i64 0, .string ⟨#[]⟩, .slice none 0 0] 24 (0, 0)) := (hg2.block W.heap.size (by simp) (by simp; omega)).trans hz
  have hz3 : (W2.setCell ⟨nb, 0, none⟩ (.int .i64 (f + (c.length : Nat) + 1))).heap[W.heap.size]? = some (.cells #[.int .i64 0, .int .i64 0, .string ⟨#[]⟩, .slice none 0 0] 24 (0, 0)) := by rw [Below.heap_setCell _ _ _ _ (by simp; omega)]; exact hz2
  have hg3 : GrB (fun k => k = mb ∨ k = nb) W.heap.size W (W2.setCell ⟨nb, 0, none⟩ (.int .i64 (f + (c.length : Nat) + 1))) := by
    have hs := hg2.size
    have hs1 := hB1.size
    exact ⟨hg2.os, hg2.tape, hg2.output, by simp; omega, fun k hk hx => by
      rw [Below.heap_setCell _ _ _ _ (fun e => hx (.inr (by simpa using e))), hg2.block k (by omega) (by simpa using fun e => hx (.inl e)), hB1.block k hk]⟩
  have hva := variable_any (f + (c.length : Nat)) (W2.setCell ⟨nb, 0, none⟩ (.int .i64 (f + (c.length : Nat) + 1)))
  have HZ3 := hide hz3
  have HG3 := hide hg3
  have HI3 := hide hI3
  have HL := hide hlt
  clear hI hI1 hN hB1 hz hg2 hnx2 hI3 hz2 hz3 hg3 h0 h1 hlt hle
  simp only [TV.val, varV] at hva ⊢
  go_enter Tryz.func86, Tryz.ntmps86
  go_wp2_with fail
  refine hva.mono ?_
  clear hva
  rintro e W4 ⟨rfl, hb4⟩
  obtain ⟨W3, hW3⟩ : ∃ W3, W2.setCell ⟨nb, 0, none⟩ (.int .i64 (f + (c.length : Nat) + 1)) = W3 := ⟨_, rfl⟩
  rw [hW3] at hb4 HZ3 HG3 HI3
  have hw3 : W.heap.size < W3.heap.size := (Array.getElem?_eq_some_iff.1 (unhide HZ3)).1
  obtain ⟨⟨z0, z1, z2, z3⟩, y0, y1, y2, y3⟩ := zbox_kept ((hb4.block W.heap.size hw3).trans (unhide HZ3))
  have hgf : GrB (fun k => k = mb ∨ k = nb) W.heap.size W (set4 W4 W.heap.size 0 (varV (f + (c.length : Nat)))) := ((unhide HG3).trans (GrB.of_below (hb4.mono (by omega)))).set4 (Nat.le_refl _) 0 _
  have hIf : NumI f mb bb nb (c ++ [N]) (set4 W4 W.heap.size 0 (varV (f + (c.length : Nat)))) := numI_keep (unhide HL).1 (unhide HL).2.1 (unhide HL).2.2 (unhide HI3) (set4_below (hb4.mono (by omega)) (Nat.le_refl _) 0 _)
  have HF := hide (And.intro hgf hIf)
  clear hgf hIf hb4 hW3
  go_wp2_with fail
  exact bodyPost_ret (v := (varV (f + (c.length : Nat))).val) (by simp [results, Tryz.results86, go_sem, TV.val, varV, z0, z1, z2, z3]) rfl ⟨rfl, unhide HF⟩

/-- number's closure says what a variable becomes, and keeps the numbers given. -/
theorem number1_becomes {f : Int} {mb bb nb lo : Nat} (hf0 : 0 ≤ f) (hf1 : f ≤ 1099511627776) (hne : mb ≠ bb ∧ mb ≠ nb ∧ bb ≠ nb) (hlo : mb < lo ∧ bb < lo ∧ nb < lo) :
    BecomesX 86 #[.pointer (some ⟨bb, 0, none⟩), .pointer (some ⟨nb, 0, none⟩)] (NumI f mb bb nb) (fun k => k = mb ∨ k = nb) lo stpN (renN f) 1 := fun N W c h0 h1 hW hI => by
  have hlt : mb < W.heap.size ∧ bb < W.heap.size ∧ nb < W.heap.size := ⟨by omega, by omega, by omega⟩
  by_cases hN : N ∈ c
  · have e : stpN c N = c := if_pos hN
    rw [e]
    refine (number1_old N W h0 h1 hlt hI hN).mono fun e W' h => ?_
    exact ⟨_, h.1, GrB.of_below h.2, numI_keep hlt.1 hlt.2.1 hlt.2.2 hI h.2, varV_holds _ _ _⟩
  · have e : stpN c N = c ++ [N] := if_neg hN
    rw [e]
    refine (number1_new hf0 hf1 hne N W h0 h1 hlt hI hN).mono fun e W' h => ?_
    refine ⟨_, h.1, h.2.1, h.2.2, ?_⟩
    have : renN f (c ++ [N]) N = [varNd (f + (c.length : Nat))] := by
      unfold renN
      rw [List.idxOf_append, if_neg hN]
      simp
    rw [this]
    exact varV_holds _ _ _
end Go.Proofs.YtcjeeagnfmipgaaGreatDoor

/- The contract of term.number. -/
namespace Go.Proofs.YtcjeeagnfmipgaaGreatDoor
open Go.RowKit Go.Shelf Go.Maps

/-- What lies behind number's first steps. -/
theorem number_world (w : World) (x : TV) (f : Int) : ∃ W5, ((((w.alloc (.cells #[.int .i64 x.k, .int .i64 x.N, .string x.s, .slice x.a x.len x.cap] 24)).alloc (.cells #[.int .i64 0, .int .i64 0, .string ⟨#[]⟩, .slice none 0 0] 24)).alloc (.cells #[.int .i64 f] 2)).alloc (.map #[] 0)).alloc (.cells #[.map (some (w.heap.size + 3))] 120) = W5 ∧
    Below w.heap.size w W5 ∧ W5.heap.size = w.heap.size + 5 ∧ BoxT W5 w.heap.size x ∧ W5.heap[w.heap.size + 1]? = some (.cells #[.int .i64 0, .int .i64 0, .string ⟨#[]⟩, .slice none 0 0] 24 (0, 0)) ∧ NumI f (w.heap.size + 3) (w.heap.size + 4) (w.heap.size + 2) [] W5 := by
  refine ⟨_, rfl, ((((Below.refl _ w).alloc (Nat.le_refl _) _).alloc (by simp) _).alloc (by simp; omega) _ |>.alloc (by simp; omega) _).alloc (by simp; omega) _, by simp, (((BoxT.new w x).alloc _).alloc _ |>.alloc _).alloc _, ?_, ?_⟩
  · have h := World.alloc_heap_new (w.alloc (.cells #[.int .i64 x.k, .int .i64 x.N, .string x.s, .slice x.a x.len x.cap] 24)) (.cells #[.int .i64 0, .int .i64 0, .string ⟨#[]⟩, .slice none 0 0] 24)
    rw [World.size_alloc] at h
    exact (Below.heap_alloc _ _ _ (by simp <;> omega)).trans ((Below.heap_alloc _ _ _ (by simp <;> omega)).trans ((Below.heap_alloc _ _ _ (by simp)).trans h))
  · refine ⟨List.nodup_nil, (fun N hN => by cases hN), ?_, ?_, .map [], ?_, (fun N => by simp [Maps.has]), (fun N hN => by cases hN)⟩
    · have h := World.alloc_heap_new ((((w.alloc (.cells #[.int .i64 x.k, .int .i64 x.N, .string x.s, .slice x.a x.len x.cap] 24)).alloc (.cells #[.int .i64 0, .int .i64 0, .string ⟨#[]⟩, .slice none 0 0] 24)).alloc (.cells #[.int .i64 f] 2)).alloc (.map #[] 0)) (.cells #[.map (some (w.heap.size + 3))] 120)
      simp only [World.size_alloc] at h
      exact h
    · have h := World.alloc_heap_new ((w.alloc (.cells #[.int .i64 x.k, .int .i64 x.N, .string x.s, .slice x.a x.len x.cap] 24)).alloc (.cells #[.int .i64 0, .int .i64 0, .string ⟨#[]⟩, .slice none 0 0] 24)) (.cells #[.int .i64 f] 2)
      simp only [World.size_alloc] at h
      have h2 := (Below.heap_alloc _ (.cells #[.map (some (w.heap.size + 3))] 120) _ (by simp <;> omega)).trans ((Below.heap_alloc _ (.map #[] 0) _ (by simp)).trans h)
      simpa using h2
    · have h := World.ownsMap_made (H := Unit) (((w.alloc (.cells #[.int .i64 x.k, .int .i64 x.N, .string x.s, .slice x.a x.len x.cap] 24)).alloc (.cells #[.int .i64 0, .int .i64 0, .string ⟨#[]⟩, .slice none 0 0] 24)).alloc (.cells #[.int .i64 f] 2)) Tryz.prog 2 (plainElem Tryz.prog 2)
      simp only [World.size_alloc] at h
      exact h.alloc _

set_option maxRecDepth 100000 in
set_option maxHeartbeats 1000000 in
theorem number_any {n : Nat} (t : Tm n) (f : Int) (w : World) (hT : IsT w.heap.size w t) (hok : okT t = true) (hf0 : 0 ≤ f) (hf1 : f ≤ 1099511627776) :
    Calls Tryz.prog 58 #[t.tv.val, .int .i64 f] w fun e W' => ∃ x : TV, e = .returned (.tuple #[x.val, .int .i64 (f + ((stepsN stpN [] (code t)).length : Nat))]) ∧ Below w.heap.size w W' ∧ HoldsT (n + 1) w.heap.size W' x.val ((code t).flatMap (subN (renN f (stepsN stpN [] (code t))))) := by
  obtain ⟨W5, hW5, hB5, hs5, hbt, hz5, hI5⟩ := number_world w t.tv f
  have hrep := replace_anyX (stately_num (f := f) (mb := w.heap.size + 3) (bb := w.heap.size + 4) (nb := w.heap.size + 2) (n₀ := w.heap.size) (lo := w.heap.size + 5) (by omega) ⟨by omega, by omega⟩ (by omega) ⟨by omega, by omega⟩) 86 #[.pointer (some ⟨w.heap.size + 4, 0, none⟩), .pointer (some ⟨w.heap.size + 2, 0, none⟩)] 1 (by omega) (enters_of Tryz.func86 (by kernel_rfl) rfl)
    (number1_becomes hf0 hf1 ⟨by omega, by omega, by omega⟩ ⟨by omega, by omega, by omega⟩) n t W5 [] (by omega) hI5 (hT.below hB5) hok
  have hmm := @run_makeMap Tryz.prog
  have c0 := hbt.c0
  have c1 := hbt.c1
  have c2 := hbt.c2
  have c3 := hbt.c3
  generalize stepsN stpN [] (code t) = cv at hrep ⊢
  have HB5 := hide hB5
  have HS5 := hide hs5
  have HZ5 := hide hz5
  clear hT hok hI5 hB5 hz5 hbt hs5
  simp only [TV.val] at hrep ⊢
  go_enter Tryz.func58, Tryz.ntmps58
  go_wp2_with fail
  refine hrep.mono ?_
  clear hrep c0 c1 c2 c3 hmm hW5
  rintro e W6 ⟨v, rfl, hg6, hI6, hv⟩
  obtain ⟨t6, ht6, -⟩ := hv _ (Nat.le_refl _)
  subst ht6
  have hs6 : w.heap.size + 5 ≤ W6.heap.size := by have := hg6.size; have := unhide HS5; omega
  have hB6 : Below w.heap.size w W6 := (unhide HB5).trans (hg6.below (fun k hx => by rcases hx with rfl | rfl <;> omega) (by have := unhide HS5; omega))
  have hz6 : W6.heap[w.heap.size + 1]? = some (.cells #[.int .i64 0, .int .i64 0, .string ⟨#[]⟩, .slice none 0 0] 24 (0, 0)) := (hg6.block _ (by have := unhide HS5; omega) (fun hx => by rcases hx with hx | hx <;> omega)).trans (unhide HZ5)
  have hb7 : Below W6.heap.size W6 (W6.alloc (.cells #[.int .i64 t6.tv.k, .int .i64 t6.tv.N, .string t6.tv.s, .slice t6.tv.a t6.tv.len t6.tv.cap] 24)) := (Below.refl _ W6).alloc (Nat.le_refl _) _
  have hbx := BoxT.new W6 t6.tv
  have hz7 := (hb7.block (w.heap.size + 1) (by omega)).trans hz6
  have hn7 := (hb7.block (w.heap.size + 2) (by omega)).trans hI6.next
  have hv7 : HoldsT (n + 1) W5.heap.size (W6.alloc (.cells #[.int .i64 t6.tv.k, .int .i64 t6.tv.N, .string t6.tv.s, .slice t6.tv.a t6.tv.len t6.tv.cap] 24)) t6.tv.val ((code t).flatMap (subN (renN f cv))) := hv.below hb7
  have hlt5 : w.heap.size + 1 < W5.heap.size := by have := unhide HS5; omega
  have hfin := (holds_set4 hv7 hlt5 0 t6.tv).mono (lo' := w.heap.size) (Nat.le_refl _) (by omega)
  have hbf := set4_below (hB6.trans (hb7.mono hB6.size)) (b := w.heap.size + 1) (by omega) 0 t6.tv
  have hx : (W6.alloc (.cells #[.int .i64 t6.tv.k, .int .i64 t6.tv.N, .string t6.tv.s, .slice t6.tv.a t6.tv.len t6.tv.cap] 24)).cell? ⟨w.heap.size + 1 + 1, 0, none⟩ = some (.int .i64 (f + (cv.length : Nat))) := (one_cell hn7).1
  obtain ⟨⟨z0, z1, z2, z3⟩, f0, f1, f2, f3⟩ := zbox_kept hz7
  have b0 := hbx.c0
  have b1 := hbx.c1
  have b2 := hbx.c2
  have b3 := hbx.c3
  have HF := hide (And.intro hbf hfin)
  clear hg6 hI6 hv hB6 hz6 hbx hz7 hn7 hv7 hfin hbf hb7
  simp only [TV.val]
  go_wp2_with fail
  go_region
  all_goals
    go_wp2_with fail
    exact bodyPost_ret (v := .tuple #[t6.tv.val, .int .i64 (f + (cv.length : Nat))]) (by simp [results, Tryz.results58, go_sem, TV.val, z0, z1, z2, z3]) rfl ⟨_, rfl, (unhide HF).1.drew, (unhide HF).2.below (Below.refl _ _).drew⟩
end Go.Proofs.YtcjeeagnfmipgaaGreatDoor

/- The contract of term.Rename, whatever it is asked. -/
namespace Go.Proofs.YtcjeeagnfmipgaaGreatDoor
open Go.RowKit Go.Shelf Go.Maps

set_option maxHeartbeats 400000 in
theorem isVar_any (N : Int) (w : World) : Calls Tryz.prog 57 #[.int .i64 N] w fun e W' => e = .returned (.bool (decide (0 ≤ N) && decide (N ≤ 1099511627776))) ∧ Below w.heap.size w W' := by
  go_enter Tryz.func57, Tryz.ntmps57
  go_wp2
  all_goals go_ret
  all_goals refine ⟨?_, Below.refl _ _⟩
  all_goals first | (simp_all; done) | (simp_all; intros; omega)

theorem steps_nodup : ∀ (c : List Nd) (acc : List Int), acc.Nodup → (stepsN stpN acc c).Nodup
  | [], _, h => h
  | x :: c, acc, h => by
    have e : stepsN stpN acc (x :: c) = stepsN stpN (if x.1 = 1 then stpN acc x.2.1 else acc) c := rfl
    rw [e]
    refine steps_nodup c _ ?_
    split
    · unfold stpN
      split
      · exact h
      · rename_i hm
        rw [List.nodup_append]
        exact ⟨h, by simp, fun a ha b hb => by simp at hb; subst hb; exact fun e => hm (e ▸ ha)⟩
    · exact h
theorem steps_lenT {n : Nat} {t : Tm n} (h : okT t = true) : (stepsN stpN [] (code t)).length ≤ 1099511627777 :=
  nodup_range (steps_nodup (code t) [] List.nodup_nil) fun N hN => by
    rcases (steps_mem (code t) [] N).1 hN with h' | ⟨x, hx, hk, rfl⟩
    · cases h'
    · rw [okT_m, List.all_eq_true] at h
      have hx' := h x hx
      obtain ⟨k, N, s, len⟩ := x
      simp only at hk
      subst hk
      simp [okM] at hx'
      exact hx'.1.1
/-- What Rename answers, of a term: the number of the first variable it did not give, or an error. -/
def RenAll {n : Nat} (t : Tm n) (f : Int) (lo : Nat) (W' : World) (x : TV) (k r : Int) : Prop :=
  (0 ≤ f ∧ f ≤ 1099511627776 ∧ f + ((stepsN stpN [] (code t)).length : Nat) ≤ 1099511627777 ∧ r = 0 ∧ k = f + ((stepsN stpN [] (code t)).length : Nat) ∧ HoldsT (n + 1) lo W' x.val (canon f (code t))) ∨
  (0 ≤ f ∧ f ≤ 1099511627776 ∧ ¬ f + ((stepsN stpN [] (code t)).length : Nat) ≤ 1099511627777 ∧ r = 9 ∧ k = 0 ∧ x = ⟨0, 0, ⟨#[]⟩, none, 0, 0⟩) ∨
  (¬ (0 ≤ f ∧ f ≤ 1099511627776) ∧ r = 1 ∧ k = 0 ∧ x = ⟨0, 0, ⟨#[]⟩, none, 0, 0⟩)

set_option maxRecDepth 100000 in
set_option maxHeartbeats 1000000 in
theorem rename_full {n : Nat} (t : Tm n) (f : Int) (w : World) (hT : IsT w.heap.size w t) (hok : okT t = true) :
    Calls Tryz.prog 15 #[t.tv.val, .int .i64 f] w fun e W' => ∃ (x : TV) (k r : Int), e = .returned (.tuple #[x.val, .int .i64 k, .int .i64 r]) ∧ Below w.heap.size w W' ∧ RenAll t f w.heap.size W' x k r := by
  have hH := Head.new w t.tv
  have hB1 : Below w.heap.size w ((w.alloc (.cells #[.int .i64 t.tv.k, .int .i64 t.tv.N, .string t.tv.s, .slice t.tv.a t.tv.len t.tv.cap] 24)).alloc (.cells #[.int .i64 0, .int .i64 0, .string ⟨#[]⟩, .slice none 0 0] 24)) := ((Below.refl _ w).alloc (Nat.le_refl _) _).alloc (by simp) _
  have hck := check_any t _ ((hT.below hB1).mono hB1.size)
  rw [chk_yes hok] at hck
  by_cases hf : 0 ≤ f ∧ f ≤ 1099511627776
  · obtain ⟨hf0, hf1⟩ := hf
    have hnm := fun (W : World) (hb : Below w.heap.size w W) => number_any t f W ((hT.below hb).mono hb.size) hok hf0 hf1
    have hlen : (stepsN stpN [] (code t)).length ≤ 1099511627777 := steps_lenT hok
    obtain ⟨L, hL⟩ : ∃ L, (stepsN stpN [] (code t)).length = L := ⟨_, rfl⟩
    rw [hL] at hnm hlen
    have HLL := hide hL
    clear hL
    have hiv := fun (W : World) => isVar_any f W
    have hdd : (decide (0 ≤ f) && decide (f ≤ 1099511627776)) = true := by simp [hf0, hf1]
    simp only [hdd] at hiv
    have hwr : IntKind.i64.wrap (f + (L : Nat) - 1) = f + (L : Nat) - 1 := by simp [IntKind.wrap, IntKind.bits, IntKind.signed]; omega
    simp only [TV.val] at hnm hck ⊢
    have HNM := hide hnm
    clear hT hok hnm hdd hB1
    go_enter Tryz.func15, Tryz.ntmps15
    go_wp2_with fail
    refine hck.mono ?_
    clear hck
    rintro e W1 ⟨rfl, hb1⟩
    replace hH := hH.next hb1
    clear hb1
    go_wp2_with fail
    refine (hiv _).mono ?_
    clear hiv
    rintro e W2 ⟨rfl, hb2⟩
    replace hH := hH.next hb2
    clear hb2
    have c0 := hH.ba.c0
    have c1 := hH.ba.c1
    have c2 := hH.ba.c2
    have c3 := hH.ba.c3
    go_wp2_with fail
    refine ((unhide HNM) W2 hH.below).mono ?_
    clear c0 c1 c2 c3 HNM
    rintro e W3 ⟨x, rfl, hb3, hx⟩
    have hb4 : Below W3.heap.size W3 (W3.alloc (.cells #[.int .i64 x.k, .int .i64 x.N, .string x.s, .slice x.a x.len x.cap] 24)) := (Below.refl _ W3).alloc (Nat.le_refl _) _
    have hb24 := hb3.trans (hb4.mono hb3.size)
    have hlt2 := hH.lt
    replace hH := hH.next hb24
    have hbx := BoxT.new W3 x
    have hx4 : HoldsT (n + 1) W2.heap.size (W3.alloc (.cells #[.int .i64 x.k, .int .i64 x.N, .string x.s, .slice x.a x.len x.cap] 24)) x.val (canon f (code t)) := hx.below hb4
    obtain ⟨⟨z0, z1, z2, z3⟩, y0, y1, y2, y3⟩ := zbox_kept hH.bz
    by_cases hbig : f + (L : Nat) - 1 ≤ 1099511627776
    · have hg : ¬ 1099511627776 < f + (L : Nat) - 1 := by omega
      have hfin := (holds_set4 hx4 hlt2 0 x).mono (lo' := w.heap.size) (Nat.le_refl _) (by omega)
      have hbf := set4_below hH.below (b := w.heap.size + 1) (by omega) 0 x
      have b0 := hbx.c0
      have b1 := hbx.c1
      have b2 := hbx.c2
      have b3 := hbx.c3
      have HF := hide (And.intro hbf hfin)
      clear hfin hbf hx4 hx hbx hH hb3 hb4 hb24
      go_wp2_with fail
      exact bodyPost_ret (v := .tuple #[x.val, .int .i64 (f + (L : Nat)), .int .i64 0]) (by simp [results, Tryz.results15, go_sem, TV.val, z0, z1, z2, z3]) rfl ⟨x, _, 0, rfl, (unhide HF).1, .inl ⟨hf0, hf1, by rw [unhide HLL]; omega, rfl, by rw [unhide HLL], (unhide HF).2⟩⟩
    · have hg : 1099511627776 < f + (L : Nat) - 1 := by omega
      have hbf := set4_below hH.below (b := w.heap.size + 1) (by omega) 0 ⟨0, 0, ⟨#[]⟩, none, 0, 0⟩
      have HF := hide hbf
      clear hbf hx4 hx hbx hH hb3 hb4 hb24 hbig
      go_wp2_with fail
      exact bodyPost_ret (v := .tuple #[.agg #[.int .i64 0, .int .i64 0, .string ⟨#[]⟩, .slice none 0 0], .int .i64 0, .int .i64 9]) (by simp [results, Tryz.results15, go_sem, z0, z1, z2, z3]) rfl ⟨⟨0, 0, ⟨#[]⟩, none, 0, 0⟩, 0, 9, rfl, unhide HF, .inr (.inl ⟨hf0, hf1, by rw [unhide HLL]; omega, rfl, rfl, rfl⟩)⟩
  · have hiv := fun (W : World) => isVar_any f W
    have hdd : (decide (0 ≤ f) && decide (f ≤ 1099511627776)) = false := by
      rw [Bool.and_eq_false_iff, decide_eq_false_iff_not, decide_eq_false_iff_not]; omega
    simp only [hdd] at hiv
    simp only [TV.val] at hck ⊢
    clear hT hok hdd hB1
    have HFF := hide hf
    clear hf
    go_enter Tryz.func15, Tryz.ntmps15
    go_wp2_with fail
    refine hck.mono ?_
    clear hck
    rintro e W1 ⟨rfl, hb1⟩
    replace hH := hH.next hb1
    clear hb1
    go_wp2_with fail
    refine (hiv _).mono ?_
    clear hiv
    rintro e W2 ⟨rfl, hb2⟩
    replace hH := hH.next hb2
    clear hb2
    obtain ⟨⟨z0, z1, z2, z3⟩, y0, y1, y2, y3⟩ := zbox_kept hH.bz
    have hbf := set4_below hH.below (b := w.heap.size + 1) (by omega) 0 ⟨0, 0, ⟨#[]⟩, none, 0, 0⟩
    have HF := hide hbf
    clear hbf hH
    go_wp2_with fail
    exact bodyPost_ret (v := .tuple #[.agg #[.int .i64 0, .int .i64 0, .string ⟨#[]⟩, .slice none 0 0], .int .i64 0, .int .i64 1]) (by simp [results, Tryz.results15, go_sem, z0, z1, z2, z3]) rfl ⟨⟨0, 0, ⟨#[]⟩, none, 0, 0⟩, 0, 1, rfl, unhide HF, .inr (.inr ⟨unhide HFF, rfl, rfl, rfl⟩)⟩

set_option maxRecDepth 100000 in
set_option maxHeartbeats 1000000 in
theorem rename_bad {n : Nat} (t : Tm n) (f : Int) (w : World) (hT : IsT w.heap.size w t) (hok : okT t = false) :
    Calls Tryz.prog 15 #[t.tv.val, .int .i64 f] w fun e W' => e = .returned (.tuple #[(⟨0, 0, ⟨#[]⟩, none, 0, 0⟩ : TV).val, .int .i64 0, .int .i64 2]) ∧ Below w.heap.size w W' := by
  have hH := Head.new w t.tv
  have hB1 : Below w.heap.size w ((w.alloc (.cells #[.int .i64 t.tv.k, .int .i64 t.tv.N, .string t.tv.s, .slice t.tv.a t.tv.len t.tv.cap] 24)).alloc (.cells #[.int .i64 0, .int .i64 0, .string ⟨#[]⟩, .slice none 0 0] 24)) := ((Below.refl _ w).alloc (Nat.le_refl _) _).alloc (by simp) _
  have hck := check_any t _ ((hT.below hB1).mono hB1.size)
  rw [chk_no hok] at hck
  simp only [TV.val] at hck ⊢
  clear hT hok hB1
  go_enter Tryz.func15, Tryz.ntmps15
  go_wp2_with fail
  refine hck.mono ?_
  clear hck
  rintro e W1 ⟨rfl, hb1⟩
  replace hH := hH.next hb1
  clear hb1
  obtain ⟨⟨z0, z1, z2, z3⟩, y0, y1, y2, y3⟩ := zbox_kept hH.bz
  have hbf := set4_below hH.below (b := w.heap.size + 1) (by omega) 0 ⟨0, 0, ⟨#[]⟩, none, 0, 0⟩
  have HF := hide hbf
  clear hbf hH
  go_wp2_with fail
  exact bodyPost_ret (v := .tuple #[.agg #[.int .i64 0, .int .i64 0, .string ⟨#[]⟩, .slice none 0 0], .int .i64 0, .int .i64 2]) (by simp [results, Tryz.results15, go_sem, z0, z1, z2, z3]) rfl ⟨rfl, unhide HF⟩
end Go.Proofs.YtcjeeagnfmipgaaGreatDoor

/- The contract of hornref.SameBinds. -/
namespace Go.Proofs.YtcjeeagnfmipgaaGreatDoor
open Go.RowKit Go.Shelf

def sameP {n : Nat} (p q : Int × Tm n) : Bool := decide (p.1 = q.1) && sameT p.2 q.2
def sameBs {n : Nat} (a b : List (Int × Tm n)) : Bool := all2 sameP a b
theorem all2_len {α : Type} {f : α → α → Bool} : ∀ (a b : List α), all2 f a b = true → a.length = b.length
  | [], [], _ => rfl
  | [], _ :: _, h => by simp [all2] at h
  | _ :: _, [], h => by simp [all2] at h
  | x :: a, y :: b, h => by simp only [all2, Bool.and_eq_true] at h; simp [all2_len a b h.2]
theorem sameBs_len {n : Nat} {a b : List (Int × Tm n)} (h : a.length ≠ b.length) : sameBs a b = false := by
  cases hh : sameBs a b
  · rfl
  · exact (h (all2_len a b hh)).elim
/-- Two lists of binds are the same just if their codes are. -/
theorem sameBs_code {n : Nat} : ∀ (a b : List (Int × Tm n)), (∀ p ∈ a, Wl p.2) → (∀ p ∈ b, Wl p.2) → (sameBs a b = true ↔ cb a = cb b)
  | [], [], _, _ => by simp [sameBs, all2, cb]
  | [], _ :: _, _, _ => by simp [sameBs, all2, cb]
  | _ :: _, [], _, _ => by simp [sameBs, all2, cb]
  | x :: a, y :: b, ha, hb => by
    have ih := sameBs_code a b (fun p hp => ha p (by simp [hp])) (fun p hp => hb p (by simp [hp]))
    unfold sameBs cb at ih ⊢
    simp only [all2, sameP, List.map_cons, List.cons.injEq, Bool.and_eq_true, decide_eq_true_eq, ih, Prod.mk.injEq, sameT_code (ha x (by simp)) (hb y (by simp))]

set_option maxRecDepth 100000 in
set_option maxHeartbeats 1000000 in
theorem sameBinds_any {n : Nat} (bs bs' : List (Int × Tm n)) (a a' : Option Addr) (len len' cap cap' : Nat) (w : World) (hl : IsL w.heap.size w a len bs) (hl' : IsL w.heap.size w a' len' bs') :
    Calls Tryz.prog 49 #[.slice a len cap, .slice a' len' cap'] w fun e W' => e = .returned (.bool (sameBs bs bs')) ∧ Below w.heap.size w W' := by
  have h1 := hl.1
  have h2 := hl.2.1
  have h1' := hl'.1
  by_cases hll : len = len'
  · have hl1 : len ≤ bs.length := by omega
    have hl2 : bs.length ≤ len := by omega
    have hl3 : len ≤ bs'.length := by omega
    have hl4 : bs'.length ≤ len := by omega
    have hl6 : ((len : Int) != (len' : Int)) = false := by simp; omega
    have hl7 : (len : Int) ≤ len' := by omega
    have hl8 : len ≤ len' := by omega
    clear h1 h1' hll
    have HL := hide hl
    have HL' := hide hl'
    clear hl hl'
    go_enter Tryz.func49, Tryz.ntmps49
    go_wp2_with fail
    go_loopw [5] (fun i wr => ∃ j : Nat, j ≤ len ∧ i = .int .i64 j ∧ Below w.heap.size w wr ∧ all2 sameP (bs.take j) (bs'.take j) = true) (fun i _ => len - (intOf i).toNat)
    case atStart => exact ⟨0, Nat.zero_le _, rfl, Below.refl _ _, by simp [all2]⟩
    case round =>
      obtain ⟨j, hj, rfl, hb, hs⟩ := hrel
      have HS := hide hs
      clear hs
      by_cases hlt : j < len
      · obtain ⟨V, u, b, off, hu, rfl, hbk, hT, c0, c1, c2, c3, c4⟩ := bind_at (unhide HL) hb hlt
        obtain ⟨V', u', b', off', hu', rfl, hbk', hT', d0, d1, d2, d3, d4⟩ := bind_at (unhide HL') hb (j := j) (by omega)
        have hj1 : (j : Int) < len := by omega
        have hj2 : (j : Int) < len' := by omega
        have hstop := all2_stop (f := sameP) bs bs' j _ _ hu hu'
        have hnext := all2_next (f := sameP) bs bs' j _ _ hu hu' (unhide HS)
        have hsm : Calls Tryz.prog 41 #[.agg #[.int .i64 u.tv.k, .int .i64 u.tv.N, .string u.tv.s, .slice u.tv.a u.tv.len u.tv.cap], .agg #[.int .i64 u'.tv.k, .int .i64 u'.tv.N, .string u'.tv.s, .slice u'.tv.a u'.tv.len u'.tv.cap]] wr.drew fun e W2 => e = .returned (.bool (sameT u u')) ∧ Below wr.heap.size wr W2 :=
          (same_any n u u' wr.drew (hT.below (Below.refl _ wr).drew) (hT'.below (Below.refl _ wr).drew)).mono fun e W2 h => ⟨h.1, (Below.refl _ wr).drew.trans h.2⟩
        have hy3 : b < wr.heap.size := by have := hb.size; omega
        have hy4 : b' < wr.heap.size := by have := hb.size; omega
        clear hu hu' hT hT'
        by_cases hV : V = V'
        · subst hV
          have hp : sameP (V, u) (V, u') = sameT u u' := by simp [sameP]
          rw [hp] at hstop hnext
          clear hp
          generalize sameT u u' = dd at *
          have HN := hide hnext
          have HST := hide hstop
          clear hnext hstop
          have hg : (V != V) = false := by simp
          cases dd with
          | true =>
            go_wp2_with fail
            go_region_held3 (fun w' => w'.cell? ⟨b, off + j * 5, none⟩ = some (.int .i64 V) ∧ w'.cell? ⟨b', off' + j * 5, none⟩ = some (.int .i64 V)
              ∧ w'.cell? ⟨b, off + j * 5 + 1, none⟩ = some (.int .i64 u.tv.k) ∧ w'.cell? ⟨b, off + j * 5 + 2, none⟩ = some (.int .i64 u.tv.N) ∧ w'.cell? ⟨b, off + j * 5 + 3, none⟩ = some (.string u.tv.s) ∧ w'.cell? ⟨b, off + j * 5 + 4, none⟩ = some (.slice u.tv.a u.tv.len u.tv.cap)
              ∧ w'.cell? ⟨b', off' + j * 5 + 1, none⟩ = some (.int .i64 u'.tv.k) ∧ w'.cell? ⟨b', off' + j * 5 + 2, none⟩ = some (.int .i64 u'.tv.N) ∧ w'.cell? ⟨b', off' + j * 5 + 3, none⟩ = some (.string u'.tv.s) ∧ w'.cell? ⟨b', off' + j * 5 + 4, none⟩ = some (.slice u'.tv.a u'.tv.len u'.tv.cap)) (go_keep)
              (first | (go_at_call 41; refine hsm.mono ?_; clear hsm; rintro e W2 ⟨rfl, hb2⟩; have hbc := bcell hb2))
            go_wp2_with fail
            go_roundw
            case rel => exact ⟨j + 1, by omega, by go_num, hb.trans (hb2.mono hb.size), (unhide HN) (by simp)⟩
            case measure => simp [intOf]; omega
          | false =>
            go_wp2_with fail
            go_region_held3 (fun w' => w'.cell? ⟨b, off + j * 5, none⟩ = some (.int .i64 V) ∧ w'.cell? ⟨b', off' + j * 5, none⟩ = some (.int .i64 V)
              ∧ w'.cell? ⟨b, off + j * 5 + 1, none⟩ = some (.int .i64 u.tv.k) ∧ w'.cell? ⟨b, off + j * 5 + 2, none⟩ = some (.int .i64 u.tv.N) ∧ w'.cell? ⟨b, off + j * 5 + 3, none⟩ = some (.string u.tv.s) ∧ w'.cell? ⟨b, off + j * 5 + 4, none⟩ = some (.slice u.tv.a u.tv.len u.tv.cap)
              ∧ w'.cell? ⟨b', off' + j * 5 + 1, none⟩ = some (.int .i64 u'.tv.k) ∧ w'.cell? ⟨b', off' + j * 5 + 2, none⟩ = some (.int .i64 u'.tv.N) ∧ w'.cell? ⟨b', off' + j * 5 + 3, none⟩ = some (.string u'.tv.s) ∧ w'.cell? ⟨b', off' + j * 5 + 4, none⟩ = some (.slice u'.tv.a u'.tv.len u'.tv.cap)) (go_keep)
              (first | (go_at_call 41; refine hsm.mono ?_; clear hsm; rintro e W2 ⟨rfl, hb2⟩; have hbc := bcell hb2))
            go_wp2_with fail
            go_ret
            exact ⟨ret_bool (by unfold sameBs; rw [(unhide HST) (by simp)]), hb.trans (hb2.mono hb.size)⟩
        · have hg : (V != V') = true := by simp [hV]
          have hp : sameP (V, u) (V', u') = false := by simp [sameP, hV]
          have hfin : sameBs bs bs' = false := hstop hp
          have HF := hide hfin
          clear hfin hstop hnext hp hsm hV
          go_wp2_with fail
          go_quiet (fail)
          go_wp2_with fail
          go_ret
          exact ⟨ret_bool (unhide HF).symm, below_drewN hb _⟩
      · have ht : bs.take j = bs := List.take_of_length_le (by omega)
        have ht' : bs'.take j = bs' := List.take_of_length_le (by omega)
        have hfin : sameBs bs bs' = true := by have h := unhide HS; rw [ht, ht'] at h; exact h
        have HF := hide hfin
        clear ht ht' hfin
        go_wp2_with fail
        go_ret
        exact ⟨ret_bool (unhide HF).symm, hb⟩
  · have hl6 : ((len : Int) != (len' : Int)) = true := by simp; omega
    have hfin : sameBs bs bs' = false := sameBs_len (by omega)
    have HF := hide hfin
    clear hl hl' hfin h1 h1' hll
    go_enter Tryz.func49, Tryz.ntmps49
    go_wp2_with fail
    go_ret
    exact ⟨ret_bool (unhide HF).symm, Below.refl _ _⟩
end Go.Proofs.YtcjeeagnfmipgaaGreatDoor

