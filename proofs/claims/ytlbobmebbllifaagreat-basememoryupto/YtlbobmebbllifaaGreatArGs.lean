import Derived.Test.YtlbobmebbllifaaGreatArCs
import Derived.Test.YtlbobmebbllifaaGreatBbRs
import Derived.Test.YtlbobmebbllifaaGreatLr
/- arith.number. -/
namespace Go.Proofs.YtlbobmebbllifaaGreat
open Go.RowKit Go.Shelf
theorem deed_nil (g : Nat) (lb : Array Value) (w : World) : (binOp .eql 158 (.func (.func g) #[] lb) .nilFunc).run Tryz.prog w = .ok (.bool false) w := by
 kernel_rfl
theorem nil_nil (w : World) : (binOp .eql 158 .nilFunc .nilFunc).run Tryz.prog w = .ok (.bool true) w := by
 kernel_rfl
theorem setTwo {W : World} {B : Nat} {x y : Value} {t : TypeId} (h : W.heap[B]? = some (.cells #[x, y] t (0, 0))) (v : Value) :
  (W.setCell ⟨B, 0, none⟩ v).heap[B]? = some (.cells #[v, y] t (0, 0)) ∧ (W.setCell ⟨B, 1, none⟩ v).heap[B]? = some (.cells #[x, v] t (0, 0)) := by
 obtain ⟨hlt, hk⟩ := Array.getElem?_eq_some_iff.1 h
 refine ⟨?_, ?_⟩
 ·show (W.heap.modify B _)[B]? = _
  rw [Array.getElem?_eq_getElem (by rw [Array.size_modify]; exact hlt), Array.getElem_modify_self, hk]
  rfl
 ·show (W.heap.modify B _)[B]? = _
  rw [Array.getElem?_eq_getElem (by rw [Array.size_modify]; exact hlt), Array.getElem_modify_self, hk]
  rfl
/- What is folded: mathematics; rows of terms, each with its code. -/
def foldV (r : Except (List Nd) Int) (c : List Nd) : List Nd :=
 match r with
 | .ok m => intC m
 | .error _ => c
def foldC : {n : Nat} → Tm n → List Nd
 | 0, t => Empty.elim t
 | n + 1, t => if t.tv.k = 4 then foldV (evT (n := n + 1) t) ((4, 0, t.tv.s.toList, t.tv.len) :: t.kids.flatMap foldC) else [(t.tv.k, t.tv.N, t.tv.s.toList, 0)]
theorem foldC_comp {n : Nat} {x : TV} {kids : List (Tm n)} (h : x.k = 4) : foldC (n := n + 1) ((x, kids) : TV × List (Tm n)) = foldV (evT (n := n + 1) ((x, kids) : TV × List (Tm n))) ((4, 0, x.s.toList, x.len) :: kids.flatMap foldC) := if_pos h
theorem foldC_leaf {n : Nat} {x : TV} {kids : List (Tm n)} (h : x.k ≠ 4) : foldC (n := n + 1) ((x, kids) : TV × List (Tm n)) = [(x.k, x.N, x.s.toList, 0)] := if_neg h
theorem op_zero (s : List UInt8) : opOf s 0 = none := rfl
theorem fold_ok : ∀ {n : Nat} {t : Tm n}, okT t = true → ∀ {m : Int}, evT t = .ok m → foldC t = intC m := by
 intro n
 cases n with
 | zero => intro t; exact Empty.elim t
 | succ n =>
  intro t hok m he
  obtain ⟨⟨k, N, s, a, len, cap⟩, kids⟩ := t
  obtain ⟨hwm, -⟩ := ok_kids hok
  by_cases h4 : k = 4
  ·rw [foldC_comp h4, he]; rfl
  ·rw [foldC_leaf h4]
   rw [evT_succ] at he
   unfold nodeR at he
   simp only at he hwm ⊢
   by_cases h2 : k = 2
   ·rw [if_pos h2] at he
    cases he
    subst h2
    have hs : s.toList = [] := by simp [wmB] at hwm; exact hwm.1
    rw [hs]; rfl
   ·rw [if_neg h2] at he
    by_cases h1 : k = 1
    ·rw [if_pos h1] at he; cases he
    ·rw [if_neg h1] at he
     have hl : len = 0 := by rcases wm_cases hwm with ⟨h, _⟩ | ⟨_, h⟩ | ⟨h, _⟩ <;> first | exact h | (exfalso; omega)
     rw [hl, op_zero] at he
     cases he
theorem fold_err : ∀ {n : Nat} {t : Tm n}, okT t = true → ∀ {c : List Nd}, evT t = .error c → ∃ k N s l r, foldC t = (k, N, s, l) :: r ∧ k ≠ 2 := by
 intro n
 cases n with
 | zero => intro t; exact Empty.elim t
 | succ n =>
  intro t hok c he
  obtain ⟨⟨k, N, s, a, len, cap⟩, kids⟩ := t
  by_cases h4 : k = 4
  ·rw [foldC_comp h4, he]
   exact ⟨_, _, _, _, _, rfl, by omega⟩
  ·rw [foldC_leaf h4]
   rw [evT_succ] at he
   unfold nodeR at he
   simp only at he ⊢
   by_cases h2 : k = 2
   ·rw [if_pos h2] at he; cases he
   ·exact ⟨_, _, _, _, _, rfl, h2⟩
def WrittenL (D B j : Nat) (W : World) (cs : List (List Nd)) : Prop :=
 ∀ M, D ≤ M → ∃ ks : List (Tm M), ks.length = j ∧ (∀ i u, ks[i]? = some u → cellsAt W B (i * 4) u.tv ∧ IsW W.heap.size W u ∧ NewW (B + 1) W u) ∧ ks.map code = cs ∧ (ks.flatMap blks).Nodup
theorem WrittenL.zero (D B : Nat) (W : World) : WrittenL D B 0 W [] := fun M _ => ⟨[], rfl, fun i u h => by simp at h, rfl, List.nodup_nil⟩
theorem WrittenL.flat {D B j : Nat} {W : World} {cs : List (List Nd)} (h : WrittenL D B j W cs) : Written D B j W cs.flatten := fun M hM => by
 obtain ⟨ks, h1, h2, h3, h4⟩ := h M hM
 exact ⟨ks, h1, h2, by rw [← h3, List.flatMap_def], h4⟩
theorem WrittenL.next {D B j lo : Nat} {W W5 : World} {cs : List (List Nd)} {c' : List Nd} {len : Nat} {x : TV} (h : WrittenL D B j W cs) (hj : j < len) (hr : Row4 W5 B len) (hb : Below W.heap.size W W5) (hB : B < W.heap.size) (hv : HoldsT D lo W5 x.val c') (hlo : W.heap.size ≤ lo) :
  WrittenL D B (j + 1) (set4 W5 B (j * 4) x) (cs ++ [c']) := fun M hM => by
 obtain ⟨ks, hl, hk, hc, hnd⟩ := h M hM
 obtain ⟨u, hu, hT, hN0, hcu⟩ := hv M hM
 have hN : NewW (B + 1) W5 u := hN0.mono (by omega)
 have hux : u.tv = x := by
  simp only [TV.val, Value.agg.injEq] at hu
  simp at hu
  obtain ⟨e1, e2, e3, e4, e5, e6⟩ := hu
  cases hx : u.tv; cases x; simp_all
 refine ⟨ks ++ [u], by simp [hl], fun i z hz => ?_, by simp [hc, hcu], kids_apart (fun i z hz => (hk i z hz).2.2) hnd hN0 hlo⟩
 by_cases hi : i < j
 ·rw [List.getElem?_append_left (by omega)] at hz
  obtain ⟨k1, k2, k3⟩ := hk i z hz
  have k1' := k1.kept (hb.block B hB)
  refine ⟨?_, ?_, (k3.below hb).kept (fun q hq _ => set4_other W5 B (j * 4) x (by omega))⟩
  ·exact ⟨(set4_far W5 B (j * 4) x (by omega)).trans k1'.1, (set4_far W5 B (j * 4) x (by omega)).trans k1'.2.1, (set4_far W5 B (j * 4) x (by omega)).trans k1'.2.2.1, (set4_far W5 B (j * 4) x (by omega)).trans k1'.2.2.2⟩
  ·rw [set4_size]
   exact ((k2.below hb).mono hb.size).from (fun q hq => set4_other W5 B (j * 4) x (by omega)) k3.new
 ·rw [List.getElem?_append_right (by omega)] at hz
  have hi2 : i - ks.length = 0 := by
   by_cases e : i - ks.length = 0
   ·exact e
   ·rw [List.getElem?_eq_none (by simp; omega)] at hz; cases hz
  rw [hi2] at hz
  simp at hz
  subst hz
  obtain rfl : i = j := by omega
  refine ⟨?_, ?_, hN.kept (fun q hq _ => set4_other W5 B (i * 4) x (by omega))⟩
  ·rw [hux]
   have g : ∀ q, q < len * 4 → (W5.cell? ⟨B, q, none⟩).isSome = true := fun q hq => by obtain ⟨⟨v, hv⟩, _⟩ := hr.cell hq; rw [hv]; rfl
   exact set4_cells W5 B (i * 4) x (g _ (by omega)) (g _ (by omega)) (g _ (by omega)) (g _ (by omega))
  ·rw [set4_size]
   exact hT.from (fun q hq => set4_other W5 B (i * 4) x (by omega)) hN.new
theorem WrittenL.kept {D B j : Nat} {W W5 : World} {cs : List (List Nd)} (h : WrittenL D B j W cs) (hb : Below W.heap.size W W5) (hB : B < W.heap.size) : WrittenL D B j W5 cs := fun M hM => by
 obtain ⟨ks, hl, hk, hc, hnd⟩ := h M hM
 refine ⟨ks, hl, fun i u hu => ?_, hc, hnd⟩
 obtain ⟨k1, k2, k3⟩ := hk i u hu
 exact ⟨k1.kept (hb.block B hB), (k2.below hb).mono hb.size, k3.below hb⟩
theorem map_take {α β : Type} (f : α → β) (l : List α) (j : Nat) (u : α) (h : l[j]? = some u) : (l.take (j + 1)).map f = (l.take j).map f ++ [f u] := by
 obtain ⟨hj, rfl⟩ := List.getElem?_eq_some_iff.1 h
 rw [List.take_succ_eq_append_getElem hj, List.map_append]; rfl
def Speaks {n M : Nat} (kids : List (Tm n)) (ks : List (Tm M)) : Prop :=
 ∀ (i : Nat) (u : Tm n) (v : Tm M), kids[i]? = some u → ks[i]? = some v → (∀ m, evT u = .ok m → v.tv.k = 2 ∧ v.tv.N = m) ∧ (∀ c, evT u = .error c → v.tv.k ≠ 2)
theorem code_head : ∀ {n : Nat} (t : Tm n), ∃ r, code t = t.tv.nd :: r := by
 intro n
 cases n with
 | zero => intro t; exact Empty.elim t
 | succ n => intro t; exact ⟨_, code_succ t.tv t.kids⟩
theorem speaks {n M : Nat} {kids : List (Tm n)} {ks : List (Tm M)} (hok : ∀ u ∈ kids, okT u = true) (h : ks.map code = kids.map foldC) : Speaks kids ks := fun i u v hu hv => by
 have h1 : (ks.map code)[i]? = some (code v) := by rw [List.getElem?_map, hv]; rfl
 have h2 : (kids.map foldC)[i]? = some (foldC u) := by rw [List.getElem?_map, hu]; rfl
 rw [h, h2] at h1
 have he : foldC u = code v := by injection h1
 obtain ⟨r, hr⟩ := code_head v
 have hku := hok u (List.mem_of_getElem? hu)
 refine ⟨fun m hm => ?_, fun c hc => ?_⟩
 ·rw [fold_ok hku hm, hr] at he
  simp only [intC, TV.nd, List.cons.injEq, Prod.mk.injEq] at he
  exact ⟨he.1.1.symm, he.1.2.1.symm⟩
 ·obtain ⟨k, N, s, l, q, hq, hne⟩ := fold_err hku hc
  rw [hq, hr] at he
  simp only [TV.nd, List.cons.injEq, Prod.mk.injEq] at he
  rw [← he.1.1]
  exact hne
def compR (s : List UInt8) (len : Nat) (r : Except (List Nd) (List Int)) : Except (List Nd) Int :=
 match opOf s len with
 | none => .error (notC s len)
 | some f => fromArgs f r
theorem evT_comp {n : Nat} {x : TV} {kids : List (Tm n)} (h : x.k = 4) : evT (n := n + 1) ((x, kids) : TV × List (Tm n)) = compR x.s.toList x.len (evL evT kids) := by
 rw [evT_succ]
 unfold nodeR
 rw [if_neg (by omega), if_neg (by omega)]
 rfl
/- arith.atOnce. -/
set_option maxHeartbeats 4000000
set_option maxRecDepth 100000
def atV : Except (List Nd) Int → Value
 | .ok m => .tuple #[.int .i64 m, .bool true]
 | .error _ => .tuple #[.int .i64 0, .bool false]
theorem atOnce_none (s : ByteArray) (a : Option Addr) (len cap : Nat) (ho : opOf s.toList len = none) (W : World) :
  Calls Tryz.prog 60 #[.string s, .slice a len cap] W fun e W' => e = .returned (.tuple #[.int .i64 0, .bool false]) ∧ Below W.heap.size W W' := by
 have hf := afind_any s len
 rw [ho] at hf
 clear ho
 go_enter Tryz.func60, Tryz.ntmps60
 go_wp2_with fail
 refine (hf _).mono ?_
 rintro e W3 ⟨v, rfl, hb3, hv⟩
 obtain rfl : v = .nilFunc := hv
 clear hf
 have hnil := nil_nil W3
 go_wp2
 all_goals go_ret2
 all_goals exact ⟨rfl, hb3⟩
theorem atOnce_some {n M : Nat} (s : ByteArray) (b len cap : Nat) (kids : List (Tm n)) (ks : List (Tm M)) (W : World) (f : Int → Int → Except ByteArray Int) (ho : opOf s.toList len = some f) (hlen : len = kids.length) (hkl : ks.length = len)
  (hbk : b < W.heap.size) (hcell : ∀ i v, ks[i]? = some v → cellsAt W b (i * 4) v.tv) (hnum : ∀ u ∈ kids, numsT u) (hsp : Speaks kids ks) :
  Calls Tryz.prog 60 #[.string s, .slice (some ⟨b, 0, none⟩) len cap] W fun e W' => e = .returned (atV (fromArgs f (evL evT kids))) ∧ Below W.heap.size W W' := by
 have hf := afind_any s len
 rw [ho] at hf
 have hl12 := op_len ho
 have HOP : Hid (∀ (a b : Int), inR a → inR b → goodAt a b f) := fun a b ha hb => op_in ho ha hb
 have hl1 : len ≤ kids.length := by omega
 have hl2 : kids.length ≤ len := by omega
 have hl3 : len ≤ ks.length := by omega
 clear ho hlen hkl
 have HN : Hid _ := hnum
 have HC : Hid _ := hcell
 have HS : Hid (Speaks kids ks) := hsp
 clear hnum hcell hsp
 go_enter Tryz.func60, Tryz.ntmps60
 go_wp2_with fail
 refine (hf _).mono ?_
 rintro e W3 ⟨v, rfl, hb3, hv⟩
 clear hf
 obtain ⟨g, lb, rfl, eg, hg⟩ := hv
 have HG : Hid _ := hg
 clear hg
 have s3 := hb3.size
 have hof : (W3.alloc (.cells #[.int .i64 0, .int .i64 0] 160)).heap[W3.heap.size]? = some (.cells #[.int .i64 0, .int .i64 0] 160 (0, 0)) := World.alloc_heap_new _ _
 have hb4 : Below W3.heap.size W3 (W3.alloc (.cells #[.int .i64 0, .int .i64 0] 160)) := (Below.refl _ W3).alloc (Nat.le_refl _) _
 have HOF : Hid _ := hof
 have HB4 : Hid _ := hb4
 clear hof hb4
 have hnil := deed_nil g lb W3
 go_wp2_with fail
 clear hnil
 go_loopw [20] (fun i wr => ∃ j : Nat, j ≤ len ∧ i = .int .i64 j ∧ Below W3.heap.size W3 wr ∧ ∃ ns : List Int, Hid (evL evT (kids.take j) = .ok ns ∧ (∀ n ∈ ns, inR n) ∧ ns.length = j) ∧ Hid (wr.heap[W3.heap.size]? = some (.cells #[.int .i64 (ns.getD 0 0), .int .i64 (ns.getD 1 0)] 160 (0, 0)))) (fun i _ => len - (intOf i).toNat)
 case atStart => exact ⟨0, Nat.zero_le _, rfl, HB4.out, [], ⟨by simp [evL], by simp, rfl⟩, HOF.out⟩
 case round =>
  obtain ⟨j, hj, rfl, hbr, ns, HNS, HOW⟩ := hrel
  have sr := hbr.size
  have hbw : Below W.heap.size W wr := hb3.trans (hbr.mono (by omega))
  clear HOF HB4
  have hltB : W3.heap.size < wr.heap.size := (Array.getElem?_eq_some_iff.1 HOW.out).1
  by_cases hlt : j < len
  ·obtain ⟨u, hu⟩ : ∃ u, kids[j]? = some u := ⟨kids[j]'(by omega), List.getElem?_eq_getElem (by omega)⟩
   obtain ⟨v, hv⟩ : ∃ v, ks[j]? = some v := ⟨ks[j]'(by omega), List.getElem?_eq_getElem (by omega)⟩
   obtain ⟨c0, c1, c2, c3⟩ := HC.out j v hv
   replace c0 := (hbw.cell (p := ⟨b, j * 4, none⟩) hbk).trans c0
   replace c1 := (hbw.cell (p := ⟨b, j * 4 + 1, none⟩) hbk).trans c1
   replace c2 := (hbw.cell (p := ⟨b, j * 4 + 2, none⟩) hbk).trans c2
   replace c3 := (hbw.cell (p := ⟨b, j * 4 + 3, none⟩) hbk).trans c3
   have hmem : u ∈ kids := List.mem_of_getElem? hu
   have hst := evL_step hu HNS.out.1
   have hin := evT_in u (HN.out u hmem)
   obtain ⟨sp1, sp2⟩ := (show Speaks kids ks from HS.out) j u v hu hv
   obtain ⟨⟨vk, vN, vs, va, vl, vc⟩, hvt⟩ : ∃ x : TV, v.tv = x := ⟨_, rfl⟩
   rw [hvt] at c0 c1 c2 c3 sp1 sp2
   simp only at c0 c1 c2 c3 sp1 sp2
   clear hmem hu hv hvt
   have hj1 : (j : Int) < len := by omega
   cases hev : evT u with
   | ok m =>
    obtain ⟨hk2, hN⟩ := sp1 m hev
    subst hk2 hN
    have h1 := hst.1 _ hev
    have h2 := hin _ hev
    have HST : Hid _ := h1
    have HIN : Hid _ := h2
    clear hst hin hev h1 h2 sp1 sp2
    have hof6 : (wr.alloc (.cells #[.int .i64 2, .int .i64 vN, .string vs, .slice va vl vc] 24)).heap[W3.heap.size]? = _ := (Below.heap_alloc wr _ _ hltB).trans HOW.out
    have hj2 : j = 0 ∨ j = 1 := by omega
    have oj : ((wr.alloc (.cells #[.int .i64 2, .int .i64 vN, .string vs, .slice va vl vc] 24)).cell? ⟨W3.heap.size, j, none⟩) = some (.int .i64 (ns.getD j 0)) := by
     rcases hj2 with rfl | rfl <;> simp [World.cell?, hof6]
    have fj : (wr.alloc (.cells #[.int .i64 2, .int .i64 vN, .string vs, .slice va vl vc] 24)).frozen? ⟨W3.heap.size, j, none⟩ = false := by
     rcases hj2 with rfl | rfl <;> simp [World.frozen?, hof6]
    clear hof6
    go_wp2_with fail
    obtain ⟨k1, k2, k3⟩ := HNS.out
    refine ⟨⟨j + 1, by omega, by go_num, (hbr.setCell (p := ⟨W3.heap.size, j, none⟩) (Nat.le_refl _) _).alloc (by simp; omega) _, ns ++ [vN], ⟨HST.out, fun q hq => ?_, by simp [k3]⟩, ?_⟩, by simp [intOf]; omega⟩
    ·rcases List.mem_append.1 hq with hq | hq
     ·exact k2 q hq
     ·have : q = vN := by simpa using hq
      subst this
      exact HIN.out
    ·have hs := setTwo HOW.out (.int .i64 vN)
     rcases hj2 with rfl | rfl
     ·obtain rfl : ns = [] := List.length_eq_zero_iff.1 k3
      have h1 := hs.1
      simp only [List.nil_append, List.getD_eq_getElem?_getD] at h1 ⊢
      exact (Below.heap_alloc _ _ _ (by simp; omega)).trans h1
     ·obtain ⟨m, rfl⟩ := List.length_eq_one_iff.1 k3
      have h1 := hs.2
      simp only [List.cons_append, List.nil_append, List.getD_eq_getElem?_getD] at h1 ⊢
      exact (Below.heap_alloc _ _ _ (by simp; omega)).trans h1
   | error c =>
    have hk2 := sp2 c hev
    have hk3 : (vk == 2) = false := by simp [hk2]
    have hk4 : (vk != 2) = true := by simp [hk2]
    have h1 := hst.2 c hev
    have HE : Hid (fromArgs f (evL evT kids) = .error c) := by rw [h1]; rfl
    have HB5 : Hid (∀ o, Below W.heap.size W (wr.alloc o)) := fun o => hbw.alloc (by omega) o
    clear hst hin hev h1 sp1 sp2 hk2
    go_wp2
    all_goals go_ret2
    all_goals exact ⟨by rw [HE.out]; rfl, HB5.out _⟩
  ·have htk : kids.take j = kids := List.take_of_length_le (by omega)
   obtain ⟨k1, k2, k3⟩ := HNS.out
   rw [htk] at k1
   have o0 : wr.cell? ⟨W3.heap.size, 0, none⟩ = some (.int .i64 (ns.getD 0 0)) := by simp [World.cell?, HOW.out]
   have o1 : wr.cell? ⟨W3.heap.size, 1, none⟩ = some (.int .i64 (ns.getD 1 0)) := by simp [World.cell?, HOW.out]
   have i0 := getD_in k2 0
   have i1 := getD_in k2 1
   have hcall := HG.out _ _ wr i0 i1 trivial hbr
   have hgood := HOP.out _ _ i0 i1
   have HE2 : Hid (fromArgs f (evL evT kids) = thrown (f (ns.getD 0 0) (ns.getD 1 0))) := by rw [k1]; rfl
   clear k1 k2 k3 htk i0 i1
   generalize ns.getD 0 0 = p at *
   generalize ns.getD 1 0 = q at *
   cases hfr : f p q with
   | ok m =>
    rw [hfr] at hcall
    simp only [ansV] at hcall
    have HR : Hid (fromArgs f (evL evT kids) = .ok m) := by rw [HE2.out, hfr]; rfl
    clear hgood hfr
    go_wp2_with fail
    refine hcall.mono ?_
    rintro e W5 ⟨rfl, hb5⟩
    have HF : Hid (Below W.heap.size W W5) := hbw.trans (hb5.mono hbw.size)
    clear hcall o0 o1 hb5
    go_wp2
    all_goals go_ret2
    all_goals exact ⟨by rw [HR.out]; rfl, HF.out⟩
   | error sx =>
    rw [hfr] at hcall
    simp only [ansV] at hcall
    obtain ⟨hse, hss⟩ := bad_some (hgood.2 _ hfr)
    have HR : Hid (fromArgs f (evL evT kids) = .error (atomC sx.toList)) := by rw [HE2.out, hfr]; rfl
    clear hgood hfr
    go_wp2_with fail
    refine hcall.mono ?_
    rintro e W5 ⟨rfl, hb5⟩
    have HF : Hid (Below W.heap.size W W5) := hbw.trans (hb5.mono hbw.size)
    clear hcall o0 o1 hb5
    go_wp2
    all_goals go_ret2
    all_goals exact ⟨by rw [HR.out]; rfl, HF.out⟩
theorem atOnce_any {n M : Nat} (s : ByteArray) (b len cap : Nat) (kids : List (Tm n)) (ks : List (Tm M)) (W : World) (hlen : len = kids.length) (hkl : ks.length = len)
  (hbk : b < W.heap.size) (hcell : ∀ i v, ks[i]? = some v → cellsAt W b (i * 4) v.tv) (hnum : ∀ u ∈ kids, numsT u) (hsp : Speaks kids ks) :
  Calls Tryz.prog 60 #[.string s, .slice (some ⟨b, 0, none⟩) len cap] W fun e W' => e = .returned (atV (compR s.toList len (evL evT kids))) ∧ Below W.heap.size W W' := by
 unfold compR
 cases ho : opOf s.toList len with
 | none => exact atOnce_none s _ len cap ho W
 | some f => exact atOnce_some s b len cap kids ks W f ho hlen hkl hbk hcell hnum hsp
/- arith.Eval; the number of two numbers by a name (hornkeep.op). -/
end Go.Proofs.YtlbobmebbllifaaGreat
