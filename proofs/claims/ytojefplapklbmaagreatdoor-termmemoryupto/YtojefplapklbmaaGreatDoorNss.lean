import Derived.Test.YtojefplapklbmaaGreatDoorLr
import Derived.Test.YtojefplapklbmaaGreatDoorUs
import Derived.Test.YtojefplapklbmaaGreatDoorJs
import Derived.Maps.RangeWalk
import Derived.Maps.OwnSet
import Derived.Maps.Views
/- Terms in new memory, where only the blocks of a state change. -/
namespace Go.Proofs.YtojefplapklbmaaGreatDoor
open Go.RowKit Go.Shelf

theorem IsT.grb {X : Nat → Prop} {lo : Nat} {A W : World} (h : GrB X A.heap.size A W) (hX : ∀ k, X k → k < lo) {n : Nat} {t : Tm n} (hT : IsT A.heap.size A t) (hN : NewT lo t) : IsT W.heap.size W t :=
  (hT.fromS (S := fun b => lo ≤ b ∧ b < A.heap.size) (fun b hb => h.block b hb.2 (fun hx => by have := hX b hx; have := hb.1; omega)) (hN.blk.and hT.blk)).mono h.size
theorem IsW.grb {X : Nat → Prop} {lo : Nat} {A W : World} {n : Nat} {t : Tm n} (hT : IsW A.heap.size A t) (h : GrB X A.heap.size A W) (hX : ∀ k, X k → k < lo) (hN : NewT lo t) : IsW W.heap.size W t := fun hl => (hT hl).grb h hX hN
theorem HoldsT.grb {X : Nat → Prop} {D lo : Nat} {A W : World} {v : Value} {c : List Nd} (h : HoldsT D lo A v c) (hg : GrB X A.heap.size A W) (hX : ∀ k, X k → k < lo) : HoldsT D lo W v c := fun m hm => by
  obtain ⟨t, h1, h2, h3, h4⟩ := h m hm
  exact ⟨t, h1, h2.grb hg hX h3.new, h3.kept (fun b hb hlt => hg.block b hlt (fun hx => by have := hX b hx; omega)), h4⟩
end Go.Proofs.YtojefplapklbmaaGreatDoor

/- Whether parts are well made, by their codes. -/
namespace Go.Proofs.YtojefplapklbmaaGreatDoor
open Go.RowKit Go.Shelf

/-- Whether a part is well made, by its node. -/
def okM : Nd → Bool
  | (k, N, s, len) =>
    if k = 1 then decide (0 ≤ N) && decide (N ≤ 1099511627776) && decide (s = []) && ((len : Int) == 0)
    else if k = 2 then decide (s = []) && ((len : Int) == 0)
    else if k = 3 then decide (N = 0) && decide ((s.length : Int) ≤ 100) && ((len : Int) == 0)
    else if k = 4 then decide (N = 0) && decide ((s.length : Int) ≤ 100) && decide (1 ≤ (len : Int)) && decide ((len : Int) ≤ 50)
    else false
theorem bytes_long (s : ByteArray) : s.toList.length = s.size := by rw [ByteArray.toList_eq]; simp
theorem ok_m (x : TV) : x.ok = okM x.nd := by
  show wmB x.k x.N x.s x.len = okM (x.k, x.N, x.s.toList, x.len)
  unfold wmB okM
  rw [← bytes_long]
theorem okT_m {n : Nat} (t : Tm n) : okT t = (code t).all okM := by
  unfold okT code
  rw [List.all_map]
  congr 1
  funext x
  exact ok_m x
end Go.Proofs.YtojefplapklbmaaGreatDoor

/- Keys that are numbers; what a world keeps but for a map's block. -/
namespace Go.Proofs.YtojefplapklbmaaGreatDoor
open Go.RowKit Go.Shelf Go.Maps

theorem Tryz.keyed2 : Keyed Tryz.prog 2 := int_keyed Tryz.underlying2
theorem key_i64 {N : Int} (h0 : 0 ≤ N) (h1 : N ≤ 1099511627776) : keyOf Tryz.prog 2 (.int .i64 N) = some (.int .i64 N) :=
  keyOf_int_mk Tryz.underlying2 (by simp [Lit.wf, IntKind.min, IntKind.max, IntKind.signed, IntKind.bits]; omega)

theorem nodup_le : ∀ (M : Nat) (l : List Nat), l.Nodup → (∀ x ∈ l, x < M) → l.length ≤ M
  | 0, l, _, h => by
    cases l with
    | nil => simp
    | cons a l => have := h a (by simp); omega
  | M + 1, l, hn, h => by
    by_cases hm : M ∈ l
    · have h1 := nodup_le M (l.erase M) (hn.erase _) (fun x hx => by
        have h2 := (List.Nodup.mem_erase_iff hn).1 hx
        have h3 := h x h2.2
        have h4 := h2.1
        omega)
      rw [List.length_erase_of_mem hm] at h1
      omega
    · have h1 := nodup_le M l hn (fun x hx => by
        have h3 := h x hx
        by_cases e : x = M
        · subst e; exact (hm hx).elim
        · omega)
      omega
/-- All but block b is as it was: so what lies below b is. -/
theorem grown_below {A B : World} {b n₀ : Nat} (h : A.grownBy B (some b)) (hb : n₀ ≤ b) (hs : n₀ ≤ A.heap.size) : Below n₀ A B :=
  ⟨h.os, h.tape, h.output, h.size, fun k hk => h.block k (by omega) (by simp; omega)⟩
theorem below_grown {A B : World} (b : Nat) (h : Below A.heap.size A B) : A.grownBy B (some b) := ⟨h.os, h.tape, h.output, h.size, fun k hk _ => h.block k hk⟩
theorem grown_trans {A B C : World} {b : Nat} (h : A.grownBy B (some b)) (k : B.grownBy C (some b)) : A.grownBy C (some b) :=
  ⟨k.os.trans h.os, k.tape.trans h.tape, k.output.trans h.output, Nat.le_trans h.size k.size, fun i hi hne => (k.block i (Nat.lt_of_lt_of_le hi h.size) hne).trans (h.block i hi hne)⟩
theorem gcell {A B : World} {b : Nat} (h : A.grownBy B (some b)) : ∀ k o, k < A.heap.size → k ≠ b → B.cell? ⟨k, o, none⟩ = A.cell? ⟨k, o, none⟩ := fun k o hk hne => World.cell?_of_block (a := ⟨k, o, none⟩) (h.block k hk (by simp; exact hne))
theorem isT_grown {A B : World} {b n₀ : Nat} (h : A.grownBy B (some b)) (hb : n₀ ≤ b) (hs : n₀ ≤ A.heap.size) {n : Nat} {t : Tm n} (hT : IsT n₀ A t) : IsT n₀ B t := hT.below (grown_below h hb hs)
end Go.Proofs.YtojefplapklbmaaGreatDoor

/- Substituting twice. -/
namespace Go.Proofs.YtojefplapklbmaaGreatDoor
open Go.RowKit Go.Shelf

theorem sub_varNd (σ : Int → List Nd) (N : Int) : [varNd N].flatMap (subN σ) = σ N := by simp [subN, varNd]
theorem sub_sub (σ τ : Int → List Nd) (c : List Nd) : (c.flatMap (subN σ)).flatMap (subN τ) = c.flatMap (subN fun N => (σ N).flatMap (subN τ)) := by
  rw [List.flatMap_assoc]
  refine flatMap_same c fun x _ => ?_
  unfold subN
  by_cases h : x.1 = 1
  · rw [if_pos h, if_pos h]
  · rw [if_neg h, if_neg h]
    simp [h]
end Go.Proofs.YtojefplapklbmaaGreatDoor

/- Numbering variables: mathematics. -/
namespace Go.Proofs.YtojefplapklbmaaGreatDoor
open Go.RowKit Go.Shelf

def stpN (c : List Int) (N : Int) : List Int := if N ∈ c then c else c ++ [N]
def renN (f : Int) (c : List Int) (N : Int) : List Nd := [varNd (f + (c.idxOf N : Nat))]
theorem stpN_ext (c : List Int) (N : Int) : ∃ d, stpN c N = c ++ d := by
  unfold stpN
  split
  · exact ⟨[], by simp⟩
  · exact ⟨[N], rfl⟩
theorem stpN_mem (c : List Int) (N : Int) : N ∈ stpN c N := by
  unfold stpN
  split
  · assumption
  · simp
theorem stepsN_ext : ∀ (l : List Nd) (c : List Int), ∃ d, stepsN stpN c l = c ++ d
  | [], c => ⟨[], by simp [stepsN]⟩
  | x :: l, c => by
    have e : stepsN stpN c (x :: l) = stepsN stpN (if x.1 = 1 then stpN c x.2.1 else c) l := rfl
    rw [e]
    obtain ⟨d, hd⟩ := stepsN_ext l (if x.1 = 1 then stpN c x.2.1 else c)
    rw [hd]
    split
    · obtain ⟨d', hd'⟩ := stpN_ext c x.2.1
      exact ⟨d' ++ d, by rw [hd', List.append_assoc]⟩
    · exact ⟨d, rfl⟩
theorem idxOf_ext {c : List Int} {N : Int} (h : N ∈ c) (d : List Int) : (c ++ d).idxOf N = c.idxOf N := by
  rw [List.idxOf_append, if_pos h]

theorem varV_holds (M : Int) (lo : Nat) (W : World) : HoldsT 1 lo W (varV M).val [varNd M] := by
  have hh := holds_leaf (varV M) rfl rfl rfl (by simp [varV, ByteArray.size]) lo W
  rw [varV_nd] at hh
  exact hh
end Go.Proofs.YtojefplapklbmaaGreatDoor

/- A term renumbered, by its code: mathematics. -/
namespace Go.Proofs.YtojefplapklbmaaGreatDoor
open Go.RowKit Go.Shelf

/-- The variables of a row of parts get numbers from f on, in the order of their coming. -/
def canon (f : Int) (c : List Nd) : List Nd := c.flatMap (subN (renN f (stepsN stpN [] c)))
def IsVarOf (c : List Nd) (N : Int) : Prop := ∃ x ∈ c, x.1 = 1 ∧ x.2.1 = N
theorem sub_congr_on {σ τ : Int → List Nd} {c : List Nd} (h : ∀ N, IsVarOf c N → σ N = τ N) : c.flatMap (subN σ) = c.flatMap (subN τ) :=
  flatMap_same c fun x hx => by
    unfold subN
    by_cases hk : x.1 = 1
    · rw [if_pos hk, if_pos hk, h _ ⟨x, hx, hk, rfl⟩]
    · rw [if_neg hk, if_neg hk]
theorem steps_mem : ∀ (c : List Nd) (acc : List Int) (N : Int), N ∈ stepsN stpN acc c ↔ N ∈ acc ∨ IsVarOf c N
  | [], acc, N => by simp [stepsN, IsVarOf]
  | x :: c, acc, N => by
    have e : stepsN stpN acc (x :: c) = stepsN stpN (if x.1 = 1 then stpN acc x.2.1 else acc) c := rfl
    rw [e, steps_mem c]
    have hv : IsVarOf (x :: c) N ↔ (x.1 = 1 ∧ x.2.1 = N) ∨ IsVarOf c N := by
      unfold IsVarOf
      constructor
      · rintro ⟨y, hy, h⟩
        rcases List.mem_cons.1 hy with rfl | hy
        · exact .inl h
        · exact .inr ⟨y, hy, h⟩
      · rintro (h | ⟨y, hy, h⟩)
        · exact ⟨x, by simp, h⟩
        · exact ⟨y, by simp [hy], h⟩
    rw [hv]
    by_cases hk : x.1 = 1
    · rw [if_pos hk]
      unfold stpN
      split
      · rename_i hm
        constructor
        · rintro (h | h)
          · exact .inl h
          · exact .inr (.inr h)
        · rintro (h | ⟨_, rfl⟩ | h)
          · exact .inl h
          · exact .inl hm
          · exact .inr h
      · constructor
        · rintro (h | h)
          · rcases List.mem_append.1 h with h | h
            · exact .inl h
            · simp at h; exact .inr (.inl ⟨hk, h.symm⟩)
          · exact .inr (.inr h)
        · rintro (h | ⟨_, rfl⟩ | h)
          · exact .inl (List.mem_append_left _ h)
          · exact .inl (List.mem_append_right _ (by simp))
          · exact .inr h
    · rw [if_neg hk]
      constructor
      · rintro (h | h)
        · exact .inl h
        · exact .inr (.inr h)
      · rintro (h | ⟨h, _⟩ | h)
        · exact .inl h
        · exact (hk h).elim
        · exact .inr h
end Go.Proofs.YtojefplapklbmaaGreatDoor

/- What is renamed is numbered as what was not: mathematics. -/
namespace Go.Proofs.YtojefplapklbmaaGreatDoor
open Go.RowKit Go.Shelf

/-- A renaming that keeps unlike variables unlike. -/
def InjOn (ρ : Int → Int) (P : Int → Prop) : Prop := ∀ M N, P M → P N → ρ M = ρ N → M = N
theorem idxOf_map {ρ : Int → Int} : ∀ (l : List Int) (N : Int), (∀ M ∈ l, ρ M = ρ N → M = N) → (l.map ρ).idxOf (ρ N) = l.idxOf N
  | [], N, _ => rfl
  | M :: l, N, h => by
    rw [List.map_cons, List.idxOf_cons, List.idxOf_cons]
    by_cases e : M = N
    · subst e; simp
    · have e' : ¬ ρ M = ρ N := fun h' => e (h M (by simp) h')
      simp only [beq_eq_false_iff_ne.2 e, beq_eq_false_iff_ne.2 e']
      rw [idxOf_map l N fun M hM => h M (by simp [hM])]
theorem steps_ren {ρ : Int → Int} {P : Int → Prop} (hρ : InjOn ρ P) : ∀ (c : List Nd) (acc : List Int), (∀ N ∈ acc, P N) → (∀ N, IsVarOf c N → P N) → stepsN stpN (acc.map ρ) (c.flatMap (subN fun N => [varNd (ρ N)])) = (stepsN stpN acc c).map ρ
  | [], acc, _, _ => rfl
  | x :: c, acc, ha, hc => by
    have hc' : ∀ N, IsVarOf c N → P N := fun N ⟨y, hy, h⟩ => hc N ⟨y, by simp [hy], h⟩
    rw [List.flatMap_cons, stepsN_append]
    have e : stepsN stpN acc (x :: c) = stepsN stpN (if x.1 = 1 then stpN acc x.2.1 else acc) c := rfl
    rw [e]
    by_cases hk : x.1 = 1
    · have hP : P x.2.1 := hc _ ⟨x, by simp, hk, rfl⟩
      rw [if_pos hk]
      have e1 : stepsN stpN (acc.map ρ) (subN (fun N => [varNd (ρ N)]) x) = (stpN acc x.2.1).map ρ := by
        unfold subN
        rw [if_pos hk]
        show stpN (acc.map ρ) (ρ x.2.1) = _
        unfold stpN
        by_cases hm : x.2.1 ∈ acc
        · rw [if_pos hm, if_pos (List.mem_map.2 ⟨_, hm, rfl⟩)]
        · rw [if_neg hm, if_neg]
          · simp
          · intro h
            obtain ⟨M, hM, e⟩ := List.mem_map.1 h
            exact hm (hρ M _ (ha M hM) hP e ▸ hM)
      rw [e1]
      refine steps_ren hρ c _ (fun N hN => ?_) hc'
      unfold stpN at hN
      split at hN
      · exact ha N hN
      · rcases List.mem_append.1 hN with hN | hN
        · exact ha N hN
        · simp at hN; subst hN; exact hP
    · rw [if_neg hk]
      have e1 : stepsN stpN (acc.map ρ) (subN (fun N => [varNd (ρ N)]) x) = acc.map ρ := by
        unfold subN
        rw [if_neg hk]
        show (if x.1 = 1 then _ else _) = _
        rw [if_neg hk]
      rw [e1]
      exact steps_ren hρ c acc ha hc'
/-- What is renamed is numbered as what was not. -/
theorem canon_ren {ρ : Int → Int} {c : List Nd} (hρ : InjOn ρ (IsVarOf c)) (f : Int) : canon f (c.flatMap (subN fun N => [varNd (ρ N)])) = canon f c := by
  have h1 := steps_ren hρ c [] (fun N h => by cases h) (fun N h => h)
  rw [List.map_nil] at h1
  unfold canon
  rw [h1, sub_sub]
  refine sub_congr_on fun N hN => ?_
  rw [sub_varNd]
  unfold renN
  rw [idxOf_map]
  intro M hM e
  rcases (steps_mem c [] M).1 hM with h | h
  · cases h
  · exact hρ M N h hN e
theorem canon_canon (f : Int) (c : List Nd) : canon 0 (canon f c) = canon 0 c := by
  have : canon f c = c.flatMap (subN fun N => [varNd (f + ((stepsN stpN [] c).idxOf N : Nat))]) := rfl
  rw [this]
  refine canon_ren (ρ := fun N => f + ((stepsN stpN [] c).idxOf N : Nat)) (fun M N hM hN e => ?_) 0
  have hM' := (steps_mem c [] M).2 (.inr hM)
  have hN' := (steps_mem c [] N).2 (.inr hN)
  have e' : (stepsN stpN [] c).idxOf M = (stepsN stpN [] c).idxOf N := by simp only at e; omega
  have h1 := List.getElem_idxOf (List.idxOf_lt_length_of_mem hM')
  have h2 := List.getElem_idxOf (List.idxOf_lt_length_of_mem hN')
  rw [← h1, ← h2]
  simp only [e']
end Go.Proofs.YtojefplapklbmaaGreatDoor

/- The contracts of number's closure and of term.number: variables get new numbers in the order of their coming. -/
namespace Go.Proofs.YtojefplapklbmaaGreatDoor
open Go.RowKit Go.Shelf Go.Maps

/-- The map of numbers given, the box that holds it, the counter. -/
structure NumI (f : Int) (mb bb nb : Nat) (c : List Int) (W : World) : Prop where
  nodup : c.Nodup
  key : ∀ N ∈ c, 0 ≤ N ∧ N ≤ 1099511627776
  box : W.heap[bb]? = some (.cells #[.map (some mb)] 120 (0, 0))
  next : W.heap[nb]? = some (.cells #[.int .i64 (f + (c.length : Nat))] 2 (0, 0))
  map : ∃ E : DataW Unit, W.ownsMap Tryz.prog 2 (plainElem Tryz.prog 2) mb c.length E ∧ (∀ N, Maps.has E (.int .i64 N) = true ↔ N ∈ c) ∧ ∀ N ∈ c, ∀ z, E.atKey (.int .i64 N) z = .lit (.int .i64 (f + (c.idxOf N : Nat)))
theorem numI_keep {f : Int} {mb bb nb lo : Nat} (h1 : mb < lo) (h2 : bb < lo) (h3 : nb < lo) {c : List Int} {W W' : World} (h : NumI f mb bb nb c W) (hb : Below lo W W') : NumI f mb bb nb c W' := by
  obtain ⟨E, ⟨es, clock, e1, e2⟩, e3⟩ := h.map
  exact ⟨h.nodup, h.key, (hb.block _ h2).trans h.box, (hb.block _ h3).trans h.next, E, ⟨es, clock, (hb.block _ h1).trans e1, e2⟩, e3⟩
theorem nodup_range {c : List Int} (hn : c.Nodup) (hk : ∀ N ∈ c, 0 ≤ N ∧ N ≤ 1099511627776) : c.length ≤ 1099511627777 := by
  have h1 := nodup_le 1099511627777 (c.map Int.toNat) (by
    rw [List.Nodup, List.pairwise_map]
    exact List.Pairwise.imp_of_mem (fun {p q} hp hq hne e => hne (by have := hk p hp; have := hk q hq; omega)) hn) (fun x hx => by
    obtain ⟨q, hq, rfl⟩ := List.mem_map.1 hx
    have := hk q hq
    omega)
  simpa using h1
theorem stately_num {f : Int} {mb bb nb n₀ lo : Nat} (h0 : n₀ ≤ lo) (h1 : n₀ ≤ mb ∧ mb < lo) (h2 : bb < lo) (h3 : n₀ ≤ nb ∧ nb < lo) : Stately (NumI f mb bb nb) (fun k => k = mb ∨ k = nb) n₀ lo stpN (renN f) where
  low := h0
  blocks := by rintro k (rfl | rfl) <;> assumption
  keep := fun s W W' h _ hb => numI_keep h1.2 h2 h3.2 h hb
  stay := fun s N l => by
    obtain ⟨d, hd⟩ := stepsN_ext l (stpN s N)
    unfold renN
    rw [hd, idxOf_ext (stpN_mem s N)]
theorem Tryz.zero2 (w : World) : (zeroValue 2).run Tryz.prog w = .ok (.int .i64 0) w := by kernel_rfl
theorem wf_i64 {N : Int} (h0 : 0 ≤ N) (h1 : N ≤ 9223372036854775807) : (Lit.int .i64 N).wf = true := by simp [Lit.wf, IntKind.min, IntKind.max, IntKind.signed, IntKind.bits]; omega
theorem numI_look {f : Int} {mb bb nb : Nat} {c : List Int} {W : World} (h : NumI f mb bb nb c W) {N : Int} (h0 : 0 ≤ N) (h1 : N ≤ 1099511627776) (hN : N ∈ c) :
    (Instr.lookup 120 (.map (some mb)) (.int .i64 N) true).run Tryz.prog W = .ok (.tuple #[.int .i64 (f + (c.idxOf N : Nat)), .bool true]) W := by
  obtain ⟨E, e1, e2, e3⟩ := h.map
  obtain ⟨v, ps, hrun, hv⟩ := e1.look_ok Tryz.keyed2 Tryz.underlying120 (Tryz.zero2 W) (plainElem_int Tryz.underlying2 (by decide)) (key_i64 h0 h1)
  rw [(e2 N).2 hN] at hrun
  rw [e3 N hN] at hv
  obtain ⟨y, rfl, hy, _⟩ := plainElem_int_inv Tryz.underlying2 hv
  simp at hy
  rw [hrun, hy.1]
theorem numI_miss {f : Int} {mb bb nb : Nat} {c : List Int} {W : World} (h : NumI f mb bb nb c W) {N : Int} (h0 : 0 ≤ N) (h1 : N ≤ 1099511627776) (hN : N ∉ c) :
    (Instr.lookup 120 (.map (some mb)) (.int .i64 N) true).run Tryz.prog W = .ok (.tuple #[.int .i64 0, .bool false]) W := by
  obtain ⟨E, e1, e2, e3⟩ := h.map
  obtain ⟨v, ps, hrun, hv⟩ := e1.look_ok Tryz.keyed2 Tryz.underlying120 (Tryz.zero2 W) (plainElem_int Tryz.underlying2 (by decide)) (key_i64 h0 h1)
  have hf : Maps.has E (.int .i64 N) = false := by
    cases hh : Maps.has E (.int .i64 N) with
    | false => rfl
    | true => exact (hN ((e2 N).1 hh)).elim
  rw [hf] at hrun
  rw [atKey_of_not_has hf] at hv
  obtain ⟨y, rfl, hy, _⟩ := plainElem_int_inv Tryz.underlying2 hv
  simp at hy
  rw [hrun, hy.1]
theorem one_cell {W : World} {b : Nat} {v : Value} {T : TypeId} (h : W.heap[b]? = some (.cells #[v] T (0, 0))) : W.cell? ⟨b, 0, none⟩ = some v ∧ W.frozen? ⟨b, 0, none⟩ = false := by
  constructor <;> simp [World.cell?, World.frozen?, h]
theorem set_one {W : World} {b : Nat} {v v' : Value} {T : TypeId} (h : W.heap[b]? = some (.cells #[v] T (0, 0))) : (W.setCell ⟨b, 0, none⟩ v').heap[b]? = some (.cells #[v'] T (0, 0)) := by
  obtain ⟨hlt, hk⟩ := Array.getElem?_eq_some_iff.1 h
  show (W.heap.modify b _)[b]? = _
  rw [Array.getElem?_eq_getElem (by rw [Array.size_modify]; exact hlt), Array.getElem_modify_self, hk]
  rfl
/-- A variable that is new: the map, and the counter behind it. -/
theorem numI_put {f : Int} {mb bb nb : Nat} {c : List Int} {W : World} (h : NumI f mb bb nb c W) (hf0 : 0 ≤ f) (hf1 : f ≤ 1099511627776) (hne : mb ≠ bb ∧ mb ≠ nb ∧ bb ≠ nb) {N : Int} (h0 : 0 ≤ N) (h1 : N ≤ 1099511627776) (hN : N ∉ c) :
    ∃ W', (Instr.mapUpdate 120 (.map (some mb)) (.int .i64 N) (.int .i64 (f + (c.length : Nat)))).run Tryz.prog W = .ok () W' ∧ W.grownBy W' (some mb) ∧ W'.heap[nb]? = some (.cells #[.int .i64 (f + (c.length : Nat))] 2 (0, 0)) ∧ NumI f mb bb nb (c ++ [N]) (W'.setCell ⟨nb, 0, none⟩ (.int .i64 (f + (c.length : Nat) + 1))) := by
  have hle := nodup_range h.nodup h.key
  obtain ⟨E, e1, e2, e3⟩ := h.map
  have hm := e1.isMap
  obtain ⟨W', hrun, f1, f2⟩ := e1.update Tryz.keyed2 Tryz.underlying120 (by unfold maxLen; omega) (key_i64 h0 h1) (plainElem_int Tryz.underlying2 (wf_i64 (N := f + (c.length : Nat)) (by omega) (by omega)))
  have hkl : WideAt.IsKeyLit (.int .i64 N) := Tryz.keyed2.key (key_i64 h0 h1)
  have hlt : ∀ {k : Nat} {o : Obj}, W.heap[k]? = some o → k < W.heap.size := fun hk => (Array.getElem?_eq_some_iff.1 hk).1
  have hnx : W'.heap[nb]? = some (.cells #[.int .i64 (f + (c.length : Nat))] 2 (0, 0)) := (f2.block nb (hlt h.next) (by simpa using hne.2.1.symm)).trans h.next
  have hbx : W'.heap[bb]? = some (.cells #[.map (some mb)] 120 (0, 0)) := (f2.block bb (hlt h.box) (by simpa using hne.1.symm)).trans h.box
  refine ⟨W', hrun, f2, hnx, ⟨?_, ?_, ?_, ?_, _, f1.setCell (a := ⟨nb, 0, none⟩) hne.2.1 _ |>.mono (by simp), ?_, ?_⟩⟩
  · rw [List.nodup_append]
    exact ⟨h.nodup, by simp, fun a ha b hb => by simp at hb; subst hb; exact fun e => hN (e ▸ ha)⟩
  · intro M hM
    rcases List.mem_append.1 hM with hM | hM
    · exact h.key M hM
    · simp at hM; subst hM; exact ⟨h0, h1⟩
  · rw [Below.heap_setCell _ _ _ _ (by simpa using hne.2.2)]; exact hbx
  · rw [set_one hnx]
    have : f + ((c ++ [N]).length : Nat) = f + (c.length : Nat) + 1 := by simp; omega
    rw [this]
  · intro M
    by_cases e : M = N
    · subst e
      rw [has_put_same hm hkl]
      simp
    · rw [has_put_other (by simpa using e), e2 M]
      simp [e]
  · intro M hM z
    by_cases e : M = N
    · subst e
      rw [atKey_put_same hm hkl]
      have : (c ++ [M]).idxOf M = c.length := by rw [List.idxOf_append, if_neg hN]; simp
      rw [this]
    · have hMc : M ∈ c := by simpa [e] using hM
      rw [atKey_put_other (by simpa using e), e3 M hMc, idxOf_ext hMc]

theorem zbox_new (W : World) : (W.alloc (.cells #[.int .i64 0, .int .i64 0, .string ⟨#[]⟩, .slice none 0 0] 24)).heap[W.heap.size]? = some (.cells #[.int .i64 0, .int .i64 0, .string ⟨#[]⟩, .slice none 0 0] 24 (0, 0)) := World.alloc_heap_new W _

set_option maxRecDepth 100000 in
set_option maxHeartbeats 1000000 in
theorem number1_old {f : Int} {mb bb nb : Nat} {c : List Int} (N : Int) (W : World) (h0 : 0 ≤ N) (h1 : N ≤ 1099511627776) (hlt : mb < W.heap.size ∧ bb < W.heap.size ∧ nb < W.heap.size) (hI : NumI f mb bb nb c W) (hN : N ∈ c) :
    Calls Tryz.prog 86 #[.int .i64 N, .pointer (some ⟨bb, 0, none⟩), .pointer (some ⟨nb, 0, none⟩)] W fun e W' => e = .returned (varV (f + (c.idxOf N : Nat))).val ∧ Below W.heap.size W W' := by
  have hB1 : Below W.heap.size W (W.alloc (.cells #[.int .i64 0, .int .i64 0, .string ⟨#[]⟩, .slice none 0 0] 24)) := (Below.refl _ W).alloc (Nat.le_refl _) _
  have hI1 := numI_keep hlt.1 hlt.2.1 hlt.2.2 hI hB1
  have hrun := numI_look hI1 h0 h1 hN
  obtain ⟨m0, -⟩ := one_cell hI1.box
  have hz := zbox_new W
  generalize hM : f + (c.idxOf N : Nat) = M at hrun ⊢
  obtain ⟨W1, hW1⟩ : ∃ W1, W.alloc (.cells #[.int .i64 0, .int .i64 0, .string ⟨#[]⟩, .slice none 0 0] 24) = W1 := ⟨_, rfl⟩
  have HW1 := hide hW1
  rw [hW1] at hB1 hz
  have HB1 := hide hB1
  have HZ := hide hz
  have hva := variable_any M W1
  rw [← hW1] at hva
  clear hI hI1 hN hM hB1 hz hW1 h0 h1 hlt
  simp only [TV.val, varV] at hva ⊢
  go_enter Tryz.func86, Tryz.ntmps86
  go_wp2_with fail
  refine hva.mono ?_
  clear hva
  rintro e W2 ⟨rfl, hb2⟩
  rw [unhide HW1] at hb2
  obtain ⟨⟨z0, z1, z2, z3⟩, y0, y1, y2, y3⟩ := zbox_kept ((hb2.block W.heap.size (Array.getElem?_eq_some_iff.1 (unhide HZ)).1).trans (unhide HZ))
  have hbf : Below W.heap.size W (set4 W2 W.heap.size 0 (varV M)) := set4_below ((unhide HB1).trans (hb2.mono (unhide HB1).size)) (Nat.le_refl _) 0 _
  have HBF := hide hbf
  clear hbf hb2
  go_wp2_with fail
  exact bodyPost_ret (v := (varV M).val) (by simp [results, Tryz.results86, go_sem, TV.val, varV, z0, z1, z2, z3]) rfl ⟨rfl, unhide HBF⟩

set_option maxRecDepth 100000 in
set_option maxHeartbeats 1000000 in
theorem number1_new {f : Int} {mb bb nb : Nat} {c : List Int} (hf0 : 0 ≤ f) (hf1 : f ≤ 1099511627776) (hne : mb ≠ bb ∧ mb ≠ nb ∧ bb ≠ nb) (N : Int) (W : World) (h0 : 0 ≤ N) (h1 : N ≤ 1099511627776) (hlt : mb < W.heap.size ∧ bb < W.heap.size ∧ nb < W.heap.size) (hI : NumI f mb bb nb c W) (hN : N ∉ c) :
    Calls Tryz.prog 86 #[.int .i64 N, .pointer (some ⟨bb, 0, none⟩), .pointer (some ⟨nb, 0, none⟩)] W fun e W' => e = .returned (varV (f + (c.length : Nat))).val ∧ GrB (fun k => k = mb ∨ k = nb) W.heap.size W W' ∧ NumI f mb bb nb (c ++ [N]) W' := by
  have hle := nodup_range hI.nodup hI.key
  have hB1 : Below W.heap.size W (W.alloc (.cells #[.int .i64 0, .int .i64 0, .string ⟨#[]⟩, .slice none 0 0] 24)) := (Below.refl _ W).alloc (Nat.le_refl _) _
  have hI1 := numI_keep hlt.1 hlt.2.1 hlt.2.2 hI hB1
  have hrun := numI_miss hI1 h0 h1 hN
  obtain ⟨m0, -⟩ := one_cell hI1.box
  obtain ⟨x0, -⟩ := one_cell hI1.next
  obtain ⟨W2, hup, hg2, hnx2, hI3⟩ := numI_put hI1 hf0 hf1 hne h0 h1 hN
  obtain ⟨x2, x2f⟩ := one_cell hnx2
  have hz := zbox_new W
  have hwr : IntKind.i64.wrap (f + (c.length : Nat) + 1) = f + (c.length : Nat) + 1 := by simp [IntKind.wrap, IntKind.bits, IntKind.signed]; omega
  have hz2 : W2.heap[W.heap.size]? = some (.cells #[.int .i64 0, .int .i64 0, .string ⟨#[]⟩, .slice none 0 0] 24 (0, 0)) := (hg2.block W.heap.size (by simp) (by simp; omega)).trans hz
  have hz3 : (W2.setCell ⟨nb, 0, none⟩ (.int .i64 (f + (c.length : Nat) + 1))).heap[W.heap.size]? = some (.cells #[.int .i64 0, .int .i64 0, .string ⟨#[]⟩, .slice none 0 0] 24 (0, 0)) := by rw [Below.heap_setCell _ _ _ _ (by simp; omega)]; exact hz2
  have hg3 : GrB (fun k => k = mb ∨ k = nb) W.heap.size W (W2.setCell ⟨nb, 0, none⟩ (.int .i64 (f + (c.length : Nat) + 1))) := by
    have hs := hg2.size
    have hs1 := hB1.size
    exact ⟨hg2.os, hg2.tape, hg2.output, by simp; omega, fun k hk hx => by
      rw [Below.heap_setCell _ _ _ _ (fun e => hx (.inr (by simpa using e))), hg2.block k (by omega) (by simpa using fun e => hx (.inl e)), hB1.block k hk]⟩
  have hva := variable_any (f + (c.length : Nat)) (W2.setCell ⟨nb, 0, none⟩ (.int .i64 (f + (c.length : Nat) + 1)))
  have HZ3 := hide hz3
  have HG3 := hide hg3
  have HI3 := hide hI3
  have HL := hide hlt
  clear hI hI1 hN hB1 hz hg2 hnx2 hI3 hz2 hz3 hg3 h0 h1 hlt hle
  simp only [TV.val, varV] at hva ⊢
  go_enter Tryz.func86, Tryz.ntmps86
  go_wp2_with fail
  refine hva.mono ?_
  clear hva
  rintro e W4 ⟨rfl, hb4⟩
  obtain ⟨W3, hW3⟩ : ∃ W3, W2.setCell ⟨nb, 0, none⟩ (.int .i64 (f + (c.length : Nat) + 1)) = W3 := ⟨_, rfl⟩
  rw [hW3] at hb4 HZ3 HG3 HI3
  have hw3 : W.heap.size < W3.heap.size := (Array.getElem?_eq_some_iff.1 (unhide HZ3)).1
  obtain ⟨⟨z0, z1, z2, z3⟩, y0, y1, y2, y3⟩ := zbox_kept ((hb4.block W.heap.size hw3).trans (unhide HZ3))
  have hgf : GrB (fun k => k = mb ∨ k = nb) W.heap.size W (set4 W4 W.heap.size 0 (varV (f + (c.length : Nat)))) := ((unhide HG3).trans (GrB.of_below (hb4.mono (by omega)))).set4 (Nat.le_refl _) 0 _
  have hIf : NumI f mb bb nb (c ++ [N]) (set4 W4 W.heap.size 0 (varV (f + (c.length : Nat)))) := numI_keep (unhide HL).1 (unhide HL).2.1 (unhide HL).2.2 (unhide HI3) (set4_below (hb4.mono (by omega)) (Nat.le_refl _) 0 _)
  have HF := hide (And.intro hgf hIf)
  clear hgf hIf hb4 hW3
  go_wp2_with fail
  exact bodyPost_ret (v := (varV (f + (c.length : Nat))).val) (by simp [results, Tryz.results86, go_sem, TV.val, varV, z0, z1, z2, z3]) rfl ⟨rfl, unhide HF⟩

/-- number's closure says what a variable becomes, and keeps the numbers given. -/
theorem number1_becomes {f : Int} {mb bb nb lo : Nat} (hf0 : 0 ≤ f) (hf1 : f ≤ 1099511627776) (hne : mb ≠ bb ∧ mb ≠ nb ∧ bb ≠ nb) (hlo : mb < lo ∧ bb < lo ∧ nb < lo) :
    BecomesX 86 #[.pointer (some ⟨bb, 0, none⟩), .pointer (some ⟨nb, 0, none⟩)] (NumI f mb bb nb) (fun k => k = mb ∨ k = nb) lo stpN (renN f) 1 := fun N W c h0 h1 hW hI => by
  have hlt : mb < W.heap.size ∧ bb < W.heap.size ∧ nb < W.heap.size := ⟨by omega, by omega, by omega⟩
  by_cases hN : N ∈ c
  · have e : stpN c N = c := if_pos hN
    rw [e]
    refine (number1_old N W h0 h1 hlt hI hN).mono fun e W' h => ?_
    exact ⟨_, h.1, GrB.of_below h.2, numI_keep hlt.1 hlt.2.1 hlt.2.2 hI h.2, varV_holds _ _ _⟩
  · have e : stpN c N = c ++ [N] := if_neg hN
    rw [e]
    refine (number1_new hf0 hf1 hne N W h0 h1 hlt hI hN).mono fun e W' h => ?_
    refine ⟨_, h.1, h.2.1, h.2.2, ?_⟩
    have : renN f (c ++ [N]) N = [varNd (f + (c.length : Nat))] := by
      unfold renN
      rw [List.idxOf_append, if_neg hN]
      simp
    rw [this]
    exact varV_holds _ _ _
end Go.Proofs.YtojefplapklbmaaGreatDoor

