import Derived.Test.YtlbobmebbllifaaGreatRs
import Derived.Deep.RegionWith
import Derived.Test.YtlbobmebbllifaaGreatQs
import Derived.Deep.DeepMust
import Derived.Test.YtlbobmebbllifaaGreatGs
import Derived.Test.YtlbobmebbllifaaGreatBbRs
import Derived.Test.YtlbobmebbllifaaGreatLr
import Derived.Maps.RangeWalk
import Derived.Maps.OwnSet
import Derived.Maps.Views
import Derived.Test.YtlbobmebbllifaaGreatJ
import Derived.Deep.RegionHeld3
import Derived.Deep.Cut
/- The contract of term.Apply. -/
namespace Go.Proofs.YtlbobmebbllifaaGreat
set_option maxHeartbeats 1000000
set_option maxRecDepth 100000
open Go.RowKit Go.Shelf
theorem replace_binds {n : Nat} (t : Tm n) (bs : List (Int × Tm n)) (a : Option Addr) (len cap B : Nat) (w : World) (hT : IsT w.heap.size w t) (hok : okT t = true) (hl : IsL w.heap.size w a len bs) (hri : Rises bs) (hokb : ∀ p ∈ bs, okT p.2 = true) (W : World) (hb : Below w.heap.size w W) (hbox : Boxed W B 120 (.slice a len cap)) :
  Calls Tryz.prog 58 #[t.tv.val, .func (.func 82) #[] #[.pointer (some ⟨B, 0, none⟩)]] W fun e W' => ∃ v, e = .returned v ∧ Below W.heap.size W W' ∧ HoldsT (n + (n + 1)) W.heap.size W' v ((code t).flatMap (subN (lookC (cb bs)))) :=
 replace_any 82 #[.pointer (some ⟨B, 0, none⟩)] (lookC (cb bs)) (n + 1) W (by omega) (enters_of Tryz.func82 (by kernel_rfl) rfl)
  (becoming_becomes bs a len cap B W hbox ((hl.below hb).mono hb.size) hri hokb) n t W (Below.refl _ _) ((hT.below hb).mono hb.size) hok
theorem checkOne {n : Nat} (bs : List (Int × Tm n)) (a : Option Addr) (len cap : Nat) (W : World) (hl : IsL W.heap.size W a len bs) :
  Calls Tryz.prog 57 #[.slice (some ⟨W.heap.size, 0, none⟩) 1 1] (W.alloc (.cells #[.slice a len cap] 120)) fun e W' => BindSays [⟨a, len, cap, bs⟩] e ∧ Below W.heap.size W W' := by
 have hb : Below W.heap.size W (W.alloc (.cells #[.slice a len cap] 120)) := (Below.refl _ W).alloc (Nat.le_refl _) _
 refine (checkBinds_any [⟨a, len, cap, bs⟩] W.heap.size 0 1 1 _ rfl (by omega) (fun i L hL => ?_) (by simp)).mono fun e W' h => ⟨h.1, hb.trans (h.2.mono hb.size)⟩
 match i, hL with
 | 0, hL =>
  simp at hL; subst hL
  exact ⟨by simp, (hl.below hb).mono hb.size⟩
 | i + 1, hL => simp at hL
theorem says_one_ok {n : Nat} {L : BL n} {e : Ending} (h : BindSays [L] e) (h1 : okB L) (h2 : Subst L.bs) : e = .returned (.int .i64 0) := by
 obtain ⟨r, rfl, _, _, h0⟩ := h
 rw [h0 (by simpa using h1) (by simpa using h2)]
structure Head (w W : World) (x : TV) : Prop where
 below : Below w.heap.size w W
 ba : BoxT W w.heap.size x
 bz : W.heap[w.heap.size + 1]? = some (.cells #[.int .i64 0, .int .i64 0, .string ⟨#[]⟩, .slice none 0 0] 24 (0, 0))
theorem Head.lt {w W : World} {x : TV} (h : Head w W x) : w.heap.size + 1 < W.heap.size := (Array.getElem?_eq_some_iff.1 h.bz).1
theorem Head.next {w W W' : World} {x : TV} (h : Head w W x) (hb : Below W.heap.size W W') : Head w W' x :=
 ⟨h.below.trans (hb.mono h.below.size), (hb.block _ h.ba.lt).trans h.ba, (hb.block _ h.lt).trans h.bz⟩
theorem Head.new (w : World) (x : TV) : Head w ((w.alloc (.cells #[.int .i64 x.k, .int .i64 x.N, .string x.s, .slice x.a x.len x.cap] 24)).alloc (.cells #[.int .i64 0, .int .i64 0, .string ⟨#[]⟩, .slice none 0 0] 24)) x := by
 have h := World.alloc_heap_new (w.alloc (.cells #[.int .i64 x.k, .int .i64 x.N, .string x.s, .slice x.a x.len x.cap] 24)) (.cells #[.int .i64 0, .int .i64 0, .string ⟨#[]⟩, .slice none 0 0] 24)
 rw [World.size_alloc] at h
 exact ⟨((Below.refl _ w).alloc (Nat.le_refl _) _).alloc (by simp) _, (BoxT.new w x).alloc _, h⟩
theorem apply_ok {n : Nat} (t : Tm n) (bs : List (Int × Tm n)) (a : Option Addr) (len cap : Nat) (w : World) (hT : IsT w.heap.size w t) (hl : IsL w.heap.size w a len bs) (hok : okT t = true) (hokb : ∀ p ∈ bs, okT p.2 = true) (hsub : Subst bs) :
  Calls Tryz.prog 42 #[t.tv.val, .slice a len cap] w fun e W' => ∃ x : TV, e = .returned (.tuple #[x.val, .int .i64 0]) ∧ Below w.heap.size w W' ∧ HoldsT (n + (n + 1)) w.heap.size W' x.val ((code t).flatMap (subN (lookC (cb bs)))) := by
 have hB1 : Below w.heap.size w ((w.alloc (.cells #[.int .i64 t.tv.k, .int .i64 t.tv.N, .string t.tv.s, .slice t.tv.a t.tv.len t.tv.cap] 24)).alloc (.cells #[.int .i64 0, .int .i64 0, .string ⟨#[]⟩, .slice none 0 0] 24)) := ((Below.refl _ w).alloc (Nat.le_refl _) _).alloc (by simp) _
 have hck := check_any t _ ((hT.below hB1).mono hB1.size)
 rw [chk_yes hok] at hck
 have hH := Head.new w t.tv
 simp only [TV.val] at hck ⊢
 have hrep := replace_binds t bs a len cap
 have HT := hide hT
 have HL := hide hl
 have HOK := hide hok
 have HOKB := hide hokb
 have HSUB := hide hsub
 have HREP := hide hrep
 clear hT hl hok hokb hsub hrep
 go_enter Tryz.func42, Tryz.ntmps42
 go_wp2_with fail
 refine hck.mono ?_
 clear hck
 rintro e W1 ⟨rfl, hb1⟩
 replace hH := hH.next hb1
 clear hb1 hB1
 go_wp2_with fail
 refine (checkOne bs a len cap W1 (((unhide HL).below hH.below).mono hH.below.size)).mono ?_
 rintro e W2 ⟨hsay, hb2⟩
 obtain rfl := says_one_ok hsay (unhide HOKB) (unhide HSUB)
 replace hH := hH.next hb2
 clear hb2 hsay
 have c0 := hH.ba.c0
 have c1 := hH.ba.c1
 have c2 := hH.ba.c2
 have c3 := hH.ba.c3
 have hbA : Below W2.heap.size W2 (W2.alloc (.cells #[.slice a len cap] 120)).drew := ((Below.refl _ W2).alloc (Nat.le_refl _) _).drew
 have hbx : Boxed (W2.alloc (.cells #[.slice a len cap] 120)).drew W2.heap.size 120 (.slice a len cap) := Boxed.new W2 120 (.slice a len cap)
 have hr2 : Calls Tryz.prog 58 #[.agg #[.int .i64 t.tv.k, .int .i64 t.tv.N, .string t.tv.s, .slice t.tv.a t.tv.len t.tv.cap], .func (.func 82) #[] #[.pointer (some ⟨W2.heap.size, 0, none⟩)]] (W2.alloc (.cells #[.slice a len cap] 120)).drew fun e W3 => ∃ x : TV, e = .returned x.val ∧ (Head w W3 t.tv ∧ HoldsT (n + (n + 1)) (w.heap.size + 2) W3 x.val ((code t).flatMap (subN (lookC (cb bs))))) ∧
   (W3.cell? ⟨w.heap.size + 1, 0, none⟩ = some (.int .i64 0) ∧ W3.cell? ⟨w.heap.size + 1, 1, none⟩ = some (.int .i64 0) ∧ W3.cell? ⟨w.heap.size + 1, 2, none⟩ = some (.string ⟨#[]⟩) ∧ W3.cell? ⟨w.heap.size + 1, 3, none⟩ = some (.slice none 0 0)) ∧ (W3.frozen? ⟨w.heap.size + 1, 0, none⟩ = false ∧ W3.frozen? ⟨w.heap.size + 1, 1, none⟩ = false ∧ W3.frozen? ⟨w.heap.size + 1, 2, none⟩ = false ∧ W3.frozen? ⟨w.heap.size + 1, 3, none⟩ = false) := by
  refine ((unhide HREP) W2.heap.size w (unhide HT) (unhide HOK) (unhide HL) (unhide HSUB).2 (unhide HOKB) _ (hH.below.trans (hbA.mono hH.below.size)) hbx).mono fun e W3 h => ?_
  obtain ⟨v, he, hb3, hv⟩ := h
  obtain ⟨t3, ht3, -⟩ := hv _ (Nat.le_refl _)
  have hH3 := (hH.next hbA).next hb3
  refine ⟨t3.tv, by rw [he, ht3], ⟨hH3, ?_⟩, zbox_kept hH3.bz⟩
  rw [← ht3]
  exact hv.mono (Nat.le_refl _) (by have := (hH.next hbA).lt; omega)
 clear hbA hbx HREP
 have hlt2 := hH.lt
 have hlt1 : w.heap.size < W2.heap.size := by omega
 simp only [TV.val] at hr2
 go_wp2_with fail
 go_region_with (first
  | (go_at_call 59; refine (becoming_any _ _ _ _).mono ?_; rintro e W3 ⟨rfl, rfl⟩)
  | (go_at_call 58; refine hr2.mono ?_; clear hr2; rintro e W3 ⟨x, rfl, hfin, ⟨z0, z1, z2, z3⟩, y0, y1, y2, y3⟩))
 all_goals
  have HFIN := hide hfin
  clear hfin
  go_wp2_with fail
  exact bodyPost_ret (v := .tuple #[x.val, .int .i64 0]) (by simp [results, Tryz.results42, go_sem, TV.val, z0, z1, z2, z3]) rfl ⟨x, rfl, set4_below (unhide HFIN).1.below (by omega) 0 x, (holds_set4 (unhide HFIN).2 (by omega) 0 x).mono (Nat.le_refl _) (by omega)⟩
theorem apply_bad {n : Nat} (t : Tm n) (a : Option Addr) (len cap : Nat) (w : World) (hT : IsT w.heap.size w t) (hok : okT t = false) :
  Calls Tryz.prog 42 #[t.tv.val, .slice a len cap] w fun e W' => e = .returned (.tuple #[.agg #[.int .i64 0, .int .i64 0, .string ⟨#[]⟩, .slice none 0 0], .int .i64 2]) ∧ Below w.heap.size w W' := by
 have hB1 : Below w.heap.size w ((w.alloc (.cells #[.int .i64 t.tv.k, .int .i64 t.tv.N, .string t.tv.s, .slice t.tv.a t.tv.len t.tv.cap] 24)).alloc (.cells #[.int .i64 0, .int .i64 0, .string ⟨#[]⟩, .slice none 0 0] 24)) := ((Below.refl _ w).alloc (Nat.le_refl _) _).alloc (by simp) _
 have hck := check_any t _ ((hT.below hB1).mono hB1.size)
 rw [chk_no hok] at hck
 have hH := Head.new w t.tv
 simp only [TV.val] at hck ⊢
 clear hT hok hB1
 go_enter Tryz.func42, Tryz.ntmps42
 go_wp2_with fail
 refine hck.mono ?_
 clear hck
 rintro e W1 ⟨rfl, hb1⟩
 replace hH := hH.next hb1
 clear hb1
 obtain ⟨⟨z0, z1, z2, z3⟩, y0, y1, y2, y3⟩ := zbox_kept hH.bz
 have HH := hide hH
 clear hH
 go_wp2_with fail
 exact bodyPost_ret (v := .tuple #[.agg #[.int .i64 0, .int .i64 0, .string ⟨#[]⟩, .slice none 0 0], .int .i64 2]) (by simp [results, Tryz.results42, go_sem, z0, z1, z2, z3]) rfl ⟨rfl, set4_below (unhide HH).below (by omega) 0 ⟨0, 0, ⟨#[]⟩, none, 0, 0⟩⟩
/- The contract of hornref.Apply: each variable of a term gives way to what the binds say; the answer may share memory with the binds. -/
def Mix (ns lo : Nat) (b : Nat) : Prop := b < ns ∨ lo ≤ b
theorem addr_add (b o n : Nat) : Addr.add ⟨b, o, none⟩ n = ⟨b, o + n, none⟩ := by
 unfold Addr.add; split
 ·rename_i h; subst h; rfl
 ·rfl
theorem new_cells {W5 : World} {x : TV} : ∀ j u, x.row[j]? = some u → (W5.alloc (.cells #[.int .i64 x.k, .int .i64 x.N, .string x.s, .slice x.a x.len x.cap] 24)).cell? ((⟨W5.heap.size, 0, none⟩ : Addr).add j) = some u := by
 intro j u hj
 rw [addr_add, Nat.zero_add]
 match j, hj with
 | 0, hj => simp [TV.row] at hj; subst hj; simp
 | 1, hj => simp [TV.row] at hj; subst hj; simp
 | 2, hj => simp [TV.row] at hj; subst hj; simp
 | 3, hj => simp [TV.row] at hj; subst hj; simp
 | j + 4, hj => simp [TV.row] at hj
theorem row_one {x : TV} : ∀ u ∈ x.row, u.oneCell' = true := by
 intro u hu
 simp [TV.row] at hu
 rcases hu with rfl | rfl | rfl | rfl <;> rfl
/- Terms that share memory: Same by codes; rows that were made. -/
theorem HoldsT.shared {D lo : Nat} {W : World} {v : Value} {c : List Nd} (h : HoldsT D lo W v c) {S : Nat → Prop} (hS : ∀ b, lo ≤ b → S b) : HoldsS D S W v c := fun m hm hl => by
 obtain ⟨t, h1, h2, h3, h4⟩ := h m hm
 exact ⟨t, h1, h2 hl, h3.new.blk.mono hS, h4⟩
/- hornref.Is, hornref.Body. -/
def isB (x : TV) (s : List UInt8) (n : Int) : Bool := (decide (x.k = 3) || decide (x.k = 4)) && (decide (x.s.toList = s) && ((x.len : Int) == n))
def anyB (_ : Nat) : Prop := True
theorem mix_of {n ns : Nat} {W : World} {t : Tm n} (hT : IsT ns W t) (hns : ns ≤ W.heap.size) (lo : Nat) : HoldsS n (Mix ns lo) W t.tv.val (code t) :=
 holdsS_of (hT.mono hns) (hT.blk.mono fun _ h => .inl h)
def junct (x : TV) : Bool := isB x [44] 2 || (isB x [59] 2 || isB x [45, 62] 2)
def callL : List UInt8 := [99, 97, 108, 108]
def bodyJ (s : List UInt8) : List (Option (List Nd)) → Option (List Nd)
 | [some x, some y] => some ((4, 0, s, 2) :: (x ++ y))
 | _ => none
def bodyC : {n : Nat} → Tm n → Option (List Nd)
 | 0, t => Empty.elim t
 | _ + 1, t => if t.tv.k = 1 then some ((4, 0, callL, 1) :: code t) else if t.tv.k = 2 then none else if junct t.tv = true then bodyJ t.tv.s.toList (t.kids.map bodyC) else some (code t)
theorem callL_eq : (⟨#[99, 97, 108, 108]⟩ : ByteArray).toList = callL := by decide +kernel
/- hornref.Body of two bodies; whole. -/
theorem bodyC_succ {n : Nat} (x : TV) (kids : List (Tm n)) : bodyC (n := n + 1) ((x, kids) : TV × List (Tm n)) = if x.k = 1 then some ((4, 0, callL, 1) :: code (n := n + 1) ((x, kids) : TV × List (Tm n))) else if x.k = 2 then none else if junct x = true then bodyJ x.s.toList (kids.map bodyC) else some (code (n := n + 1) ((x, kids) : TV × List (Tm n))) := rfl
theorem junct_len {x : TV} (h : junct x = true) : x.len = 2 := by
 simp only [junct, isB, Bool.or_eq_true, Bool.and_eq_true, beq_iff_eq] at h
 rcases h with h | h | h
 ·have := h.2.2; omega
 ·have := h.2.2; omega
 ·have := h.2.2; omega
/- Terms in new memory, where only the blocks of a state change. -/
/- Numbering variables: mathematics. -/
def stpN (c : List Int) (N : Int) : List Int := if N ∈ c then c else c ++ [N]
def renN (f : Int) (c : List Int) (N : Int) : List Nd := [varNd (f + (c.idxOf N : Nat))]
theorem stpN_ext (c : List Int) (N : Int) : ∃ d, stpN c N = c ++ d := by
 unfold stpN
 split
 ·exact ⟨[], by simp⟩
 ·exact ⟨[N], rfl⟩
theorem stpN_mem (c : List Int) (N : Int) : N ∈ stpN c N := by
 unfold stpN
 split
 ·assumption
 ·simp
theorem stepsN_ext : ∀ (l : List Nd) (c : List Int), ∃ d, stepsN stpN c l = c ++ d
 | [], c => ⟨[], by simp [stepsN]⟩
 | x :: l, c => by
  have e : stepsN stpN c (x :: l) = stepsN stpN (if x.1 = 1 then stpN c x.2.1 else c) l := rfl
  rw [e]
  obtain ⟨d, hd⟩ := stepsN_ext l (if x.1 = 1 then stpN c x.2.1 else c)
  rw [hd]
  split
  ·obtain ⟨d', hd'⟩ := stpN_ext c x.2.1
   exact ⟨d' ++ d, by rw [hd', List.append_assoc]⟩
  ·exact ⟨d, rfl⟩
theorem idxOf_ext {c : List Int} {N : Int} (h : N ∈ c) (d : List Int) : (c ++ d).idxOf N = c.idxOf N := by
 rw [List.idxOf_append, if_pos h]
theorem varV_holds (M : Int) (lo : Nat) (W : World) : HoldsT 1 lo W (varV M).val [varNd M] := by
 have hh := holds_leaf (varV M) rfl rfl rfl (by simp [varV, ByteArray.size]) lo W
 rw [varV_nd] at hh
 exact hh
/- Rows of numbers: the contracts of hornref.Has and hornref.SameNumbers. -/
open Go.Maps
def i64s (l : List Int) : List Value := l.map (Value.int .i64)
def IsN (W : World) (a : Option Addr) (len : Nat) (ns : List Int) : Prop :=
 len = ns.length ∧ len ≤ 1152921504606846976 ∧ (ns = [] ∨ ∃ b off, a = some ⟨b, off, none⟩ ∧ b < W.heap.size ∧ ∀ (j : Nat) N, ns[j]? = some N → W.cell? ⟨b, off + j, none⟩ = some (.int .i64 N))
/- The contracts of hornref.vars and of hornref.Vars at one term: the variables, in the order of their coming. -/
/-- The variables of a term, behind those that there are. -/
abbrev varsC (acc : List Int) (c : List Nd) : List Int := stepsN stpN acc c
theorem varsC_len (acc : List Int) (c : List Nd) : (varsC acc c).length ≤ acc.length + c.length := by
 induction c generalizing acc with
 | nil => simp [varsC, stepsN]
 | cons x c ih =>
  have e : varsC acc (x :: c) = varsC (if x.1 = 1 then stpN acc x.2.1 else acc) c := rfl
  rw [e]
  refine Nat.le_trans (ih _) ?_
  simp only [List.length_cons]
  split
  ·unfold stpN
   split
   ·omega
   ·simp; omega
  ·omega
/- A term renumbered, by its code: mathematics. -/
def canon (f : Int) (c : List Nd) : List Nd := c.flatMap (subN (renN f (stepsN stpN [] c)))
def IsVarOf (c : List Nd) (N : Int) : Prop := ∃ x ∈ c, x.1 = 1 ∧ x.2.1 = N
theorem sub_congr_on {σ τ : Int → List Nd} {c : List Nd} (h : ∀ N, IsVarOf c N → σ N = τ N) : c.flatMap (subN σ) = c.flatMap (subN τ) :=
 flatMap_same c fun x hx => by
  unfold subN
  by_cases hk : x.1 = 1
  ·rw [if_pos hk, if_pos hk, h _ ⟨x, hx, hk, rfl⟩]
  ·rw [if_neg hk, if_neg hk]
theorem steps_mem : ∀ (c : List Nd) (acc : List Int) (N : Int), N ∈ stepsN stpN acc c ↔ N ∈ acc ∨ IsVarOf c N
 | [], acc, N => by simp [stepsN, IsVarOf]
 | x :: c, acc, N => by
  have e : stepsN stpN acc (x :: c) = stepsN stpN (if x.1 = 1 then stpN acc x.2.1 else acc) c := rfl
  rw [e, steps_mem c]
  have hv : IsVarOf (x :: c) N ↔ (x.1 = 1 ∧ x.2.1 = N) ∨ IsVarOf c N := by
   unfold IsVarOf
   constructor
   ·rintro ⟨y, hy, h⟩
    rcases List.mem_cons.1 hy with rfl | hy
    ·exact .inl h
    ·exact .inr ⟨y, hy, h⟩
   ·rintro (h | ⟨y, hy, h⟩)
    ·exact ⟨x, by simp, h⟩
    ·exact ⟨y, by simp [hy], h⟩
  rw [hv]
  by_cases hk : x.1 = 1
  ·rw [if_pos hk]
   unfold stpN
   split
   ·rename_i hm
    constructor
    ·rintro (h | h)
     ·exact .inl h
     ·exact .inr (.inr h)
    ·rintro (h | ⟨_, rfl⟩ | h)
     ·exact .inl h
     ·exact .inl hm
     ·exact .inr h
   ·constructor
    ·rintro (h | h)
     ·rcases List.mem_append.1 h with h | h
      ·exact .inl h
      ·simp at h; exact .inr (.inl ⟨hk, h.symm⟩)
     ·exact .inr (.inr h)
    ·rintro (h | ⟨_, rfl⟩ | h)
     ·exact .inl (List.mem_append_left _ h)
     ·exact .inl (List.mem_append_right _ (by simp))
     ·exact .inr h
  ·rw [if_neg hk]
   constructor
   ·rintro (h | h)
    ·exact .inl h
    ·exact .inr (.inr h)
   ·rintro (h | ⟨h, _⟩ | h)
    ·exact .inl h
    ·exact (hk h).elim
    ·exact .inr h
/- The contracts of hornref.Swap and hornref.Rename: variables get new numbers. -/
/- Whether parts are well made, by their codes. -/
def okM : Nd → Bool
 | (k, N, s, len) =>
  if k = 1 then decide (0 ≤ N) && decide (N ≤ 1099511627776) && decide (s = []) && ((len : Int) == 0)
  else if k = 2 then decide (s = []) && ((len : Int) == 0)
  else if k = 3 then decide (N = 0) && decide ((s.length : Int) ≤ 100) && ((len : Int) == 0)
  else if k = 4 then decide (N = 0) && decide ((s.length : Int) ≤ 100) && decide (1 ≤ (len : Int)) && decide ((len : Int) ≤ 50)
  else false
theorem bytes_long (s : ByteArray) : s.toList.length = s.size := by rw [ByteArray.toList_eq]; simp
theorem ok_m (x : TV) : x.ok = okM x.nd := by
 show wmB x.k x.N x.s x.len = okM (x.k, x.N, x.s.toList, x.len)
 unfold wmB okM
 rw [← bytes_long]
theorem okT_m {n : Nat} (t : Tm n) : okT t = (code t).all okM := by
 unfold okT code
 rw [List.all_map]
 congr 1
 funext x
 exact ok_m x
/- hornref.Vars of two terms; what hornref.Make begins with. -/
end Go.Proofs.YtlbobmebbllifaaGreat
