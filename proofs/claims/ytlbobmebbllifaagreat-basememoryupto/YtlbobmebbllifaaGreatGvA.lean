import Derived.Test.YtlbobmebbllifaaGreatMrbs
/- Terms of whole rows may be spoilt, and what own made: the contract of hornkeep.spoilTerm once more. -/
namespace Go.Proofs.YtlbobmebbllifaaGreat
set_option maxHeartbeats 1000000
set_option maxRecDepth 100000
open Go.RowKit Go.Shelf
def SpT (S : Nat → Prop) (W : World) : {n : Nat} → Tm n → Prop
 | 0, _ => True
 | _ + 1, t => ((t.kids = [] ∧ t.tv.len = 0 ∧ t.tv.cap = 0) ∨ ∃ b, S b ∧ t.tv.a = some ⟨b, 0, none⟩ ∧ (t.tv.len ≤ t.tv.cap ∧ (t.tv.cap ≤ 100000000 ∨ t.tv.len + 3 ≤ t.tv.cap ∧ t.tv.cap ≤ 9223372036854775807)) ∧ Row4 W b t.tv.cap) ∧ ∀ u ∈ t.kids, SpT S W u
theorem SpT.kept {S : Nat → Prop} {A B : World} (hs : ∀ k, S k → B.heap[k]? = A.heap[k]?) : ∀ {n : Nat} {t : Tm n}, SpT S A t → SpT S B t := by
 intro n
 induction n with
 | zero => intro t; exact Empty.elim t
 | succ n ih =>
  intro t h
  obtain ⟨h2, h3⟩ := h
  refine ⟨?_, fun u hu => ih (h3 u hu)⟩
  rcases h2 with h2 | ⟨b, hb, ha, hc, hk⟩
  ·exact .inl h2
  ·exact .inr ⟨b, hb, ha, hc, hk.kept (hs b hb)⟩
theorem SpT.wide {S S' : Nat → Prop} (hS : ∀ k, S k → S' k) {A : World} : ∀ {n : Nat} {t : Tm n}, SpT S A t → SpT S' A t := by
 intro n
 induction n with
 | zero => intro t; exact Empty.elim t
 | succ n ih =>
  intro t h
  obtain ⟨h2, h3⟩ := h
  refine ⟨?_, fun u hu => ih (h3 u hu)⟩
  rcases h2 with h2 | ⟨b, hb, ha, hc, hk⟩
  ·exact .inl h2
  ·exact .inr ⟨b, hS b hb, ha, hc, hk⟩
theorem SpT.blk {S : Nat → Prop} {A : World} : ∀ {n : Nat} {t : Tm n}, SpT S A t → BlkT S t := by
 intro n
 induction n with
 | zero => intro t; exact Empty.elim t
 | succ n ih =>
  intro t h
  obtain ⟨h2, h3⟩ := h
  refine ⟨?_, fun u hu => ih (h3 u hu)⟩
  rcases h2 with h2 | ⟨b, hb, ha, _⟩
  ·exact .inl h2.1
  ·exact .inr ⟨b, 0, ha, hb⟩
theorem spT_own {W : World} : ∀ {n : Nat} {t : Tm n}, IsT W.heap.size W t → Rows W t → (∀ x ∈ code t, x.2.2.2 ≤ 50) → SpT (fun k => k ∈ blks t) W t := by
 intro n
 induction n with
 | zero => intro t; exact Empty.elim t
 | succ n ih =>
  intro t hT hr h50
  obtain ⟨x, kids⟩ := t
  rw [code_succ] at h50
  obtain ⟨h1, h2, h3, h4⟩ := hT
  obtain ⟨r1, r2⟩ := hr
  have hl50 : x.len ≤ 50 := h50 x.nd (by simp)
  have hk : ∀ u ∈ kids, IsT W.heap.size W u := fun u hu => by
   obtain ⟨j, hj⟩ := List.mem_iff_getElem?.1 hu
   rcases h4 with h4 | ⟨b, off, _, _, hkk⟩
   ·rw [show kids = [] from h4] at hu; cases hu
   ·exact (hkk j u hj).2
  refine ⟨?_, fun u hu => (ih (hk u hu) (r2 u hu) fun z hz => h50 z (by simp only [List.mem_cons]; exact .inr (List.mem_flatMap.2 ⟨u, hu, hz⟩))).wide fun k hk => kid_blks hu hk⟩
  by_cases hne : kids = []
  ·refine .inl ⟨hne, ?_, ?_⟩
   ·exact h1.trans (by rw [show Tm.kids (n := n) ((x, kids) : TV × List (Tm n)) = [] from hne]; rfl)
   ·rcases r1 with r1 | ⟨_, _, _, _, _, hc, hl⟩
    ·exact r1.2
    ·exact hc.trans (hl.trans (by rw [show Tm.kids (n := n) ((x, kids) : TV × List (Tm n)) = [] from hne]; rfl))
  ·rcases r1 with r1 | ⟨b, arr, ha, hB, hz, hc, _⟩
   ·exact absurd r1.1 hne
   ·have hc' : x.cap = x.len := hc
    exact .inr ⟨b, row_blks hne ha, ha, ⟨Nat.le_of_eq hc.symm, .inl (by show x.cap ≤ _; omega)⟩, arr, hB, by rw [hz, hc]⟩
theorem blk_in {S : Nat → Prop} {n₀ : Nat} {W : World} : ∀ {n : Nat} {t : Tm n}, IsT n₀ W t → BlkT S t → ∀ k ∈ blks t, S k := by
 intro n
 induction n with
 | zero => intro t; exact Empty.elim t
 | succ n ih =>
  intro t hT hb k hk
  obtain ⟨x, kids⟩ := t
  obtain ⟨_, _, _, h4⟩ := hT
  obtain ⟨b1, b2⟩ := hb
  rw [blks_succ] at hk
  rcases List.mem_append.1 hk with h | h
  ·split at h
   ·cases h
   ·rename_i hne
    rcases b1 with b1 | ⟨b, off, ha, hS⟩
    ·exact absurd b1 hne
    ·rw [show x.a = _ from ha] at h
     simp at h
     subst h
     exact hS
  ·obtain ⟨u, hu, hku⟩ := List.mem_flatMap.1 h
   obtain ⟨j, hj⟩ := List.mem_iff_getElem?.1 hu
   rcases h4 with h4 | ⟨b, off, _, _, hkk⟩
   ·rw [show kids = [] from h4] at hu; cases hu
   ·exact ih (hkk j u hj).2 (b2 u hu) k hku
theorem spT_owned {W : World} : ∀ {n : Nat} {t : Tm n}, IsT W.heap.size W t → RmT W t → SpT (fun k => k ∈ blks t) W t := by
 intro n
 induction n with
 | zero => intro t; exact Empty.elim t
 | succ n ih =>
  intro t hT hr
  obtain ⟨x, kids⟩ := t
  obtain ⟨h1, h2, h3, h4⟩ := hT
  obtain ⟨r1, r2⟩ := hr
  have hk : ∀ u ∈ kids, IsT W.heap.size W u := fun u hu => by
   obtain ⟨j, hj⟩ := List.mem_iff_getElem?.1 hu
   rcases h4 with h4 | ⟨b, off, _, _, hkk⟩
   ·rw [show kids = [] from h4] at hu; cases hu
   ·exact (hkk j u hj).2
  refine ⟨?_, fun u hu => (ih (hk u hu) (r2 u hu)).wide fun k hk => kid_blks hu hk⟩
  rcases r1 with r1 | ⟨hc, b, ha, hw, _⟩
  ·exact .inl ⟨r1.1, h1.trans (by rw [r1.1]; rfl), r1.2⟩
  ·exact .inr ⟨b, row_blks hc.2.2 ha, ha, ⟨h2.2.1, .inr ⟨hc.1, hc.2.1⟩⟩, hw⟩
theorem SpT.spoilt {S : Nat → Prop} {A B : World} (h : Spoils S A B) : ∀ {n : Nat} {t : Tm n}, SpT S A t → IsT A.heap.size A t → ∃ t' : Tm n, t'.tv = t.tv ∧ SpT S B t' ∧ IsT B.heap.size B t' := by
 intro n
 induction n with
 | zero => intro t; exact Empty.elim t
 | succ n ih =>
  intro t hw hT
  obtain ⟨w1, w2⟩ := hw
  obtain ⟨h1, h2, h3, h4⟩ := hT
  rcases w1 with ⟨e1, e3, e4⟩ | ⟨b, hS, ha, hc, hrow⟩
  ·exact ⟨((t.tv, []) : TV × List (Tm n)), rfl, ⟨.inl ⟨rfl, e3, e4⟩, fun u hu => by cases hu⟩, ⟨e3, h2, h3, .inl rfl⟩⟩
  ·have hkids : t.kids = [] ∨ ∀ j u, t.kids[j]? = some u → cellsAt A b (j * 4) u.tv ∧ IsT A.heap.size A u := by
    rcases h4 with h4 | ⟨b', off', ha', _, hk⟩
    ·exact .inl h4
    ·rw [ha] at ha'
     simp at ha'
     obtain ⟨rfl, rfl⟩ := ha'
     exact .inr fun j u hu => by have := hk j u hu; rw [Nat.zero_add] at this; exact this
   have hlt := Nat.lt_of_lt_of_le hrow.lt h.size
   rcases h.mark b t.tv.cap hS hrow with hm | hm
   ·have hq : ∀ i, i < t.kids.length → ∃ u' : Tm n, (∀ u, t.kids[i]? = some u → u'.tv = u.tv) ∧ SpT S B u' ∧ IsT B.heap.size B u' := fun i hi => by
     obtain ⟨u, hu⟩ : ∃ u, t.kids[i]? = some u := ⟨t.kids[i], List.getElem?_eq_getElem hi⟩
     rcases hkids with hk | hk
     ·rw [hk] at hi; simp at hi
     ·obtain ⟨u', k1, k2, k3⟩ := ih (w2 u (List.mem_of_getElem? hu)) (hk i u hu).2
      exact ⟨u', fun v hv => by rw [hu] at hv; cases hv; exact k1, k2, k3⟩
    obtain ⟨ks, hkl, hks⟩ := list_of hq
    refine ⟨((t.tv, ks) : TV × List (Tm n)), rfl, ⟨.inr ⟨b, hS, ha, hc, hrow.kept hm⟩, fun u hu => ?_⟩, ⟨h1.trans hkl.symm, h2, h3, .inr ⟨b, 0, ha, hlt, fun j u hu => ?_⟩⟩⟩
    ·obtain ⟨j, hj⟩ := List.mem_iff_getElem?.1 hu
     exact (hks j u hj).2.1
    ·have hu0 : ks[j]? = some u := hu
     have hj : j < t.kids.length := by have := (List.getElem?_eq_some_iff.1 hu0).1; omega
     obtain ⟨v, hv⟩ : ∃ v, t.kids[j]? = some v := ⟨t.kids[j], List.getElem?_eq_getElem hj⟩
     obtain ⟨k1, k2, k3⟩ := hks j u hu
     rcases hkids with hk | hk
     ·rw [hk] at hj; simp at hj
     ·rw [Nat.zero_add, k1 v hv]
      exact ⟨((hk j v hv).1).kept hm, k3⟩
   ·cases n with
    | zero =>
     have he : t.kids = [] := by
      cases hk : t.kids with
      | nil => rfl
      | cons u r => exact Empty.elim u
     have hl0 : t.tv.len = 0 := by rw [h1, he]; rfl
     exact ⟨((t.tv, []) : TV × List (Tm 0)), rfl, ⟨.inr ⟨b, hS, ha, hc, hm.row⟩, fun u hu => by cases hu⟩, ⟨hl0, h2, h3, .inl rfl⟩⟩
    | succ n =>
     refine ⟨((t.tv, List.replicate t.tv.len (markT n)) : TV × List (Tm (n + 1))), rfl, ⟨.inr ⟨b, hS, ha, hc, hm.row⟩, fun u hu => ?_⟩, ⟨by simp [Tm.kids, Tm.tv], h2, h3, .inr ⟨b, 0, ha, hlt, fun j u hu => ?_⟩⟩⟩
     ·have := List.eq_of_mem_replicate hu
      subst this
      exact ⟨.inl ⟨rfl, rfl, rfl⟩, fun u hu => by cases hu⟩
     ·have hu' : (List.replicate t.tv.len (markT n))[j]? = some u := hu
      rw [List.getElem?_replicate] at hu'
      split at hu'
      ·rename_i hj
       cases hu'
       rw [Nat.zero_add]
       exact ⟨hm.at4 j (by omega), rfl, ⟨by simp [markT, Tm.tv, markV], by simp [markT, Tm.tv, markV], by have := h2.2.2; omega⟩, (by show (markV).s.size ≤ _; decide), .inl rfl⟩
      ·cases hu'
theorem spoiltT_none (ad : Addr) (w : World) :
  Calls Tryz.prog 34 #[.slice (some ad) 0 0, .agg #[.int .i64 9, .int .i64 (-77), .string ⟨#[115, 112, 111, 105, 108, 116]⟩, .slice none 0 0]] w fun e W' => e = .returned (.tuple #[]) ∧ Below w.heap.size w W' := by
 obtain ⟨i0, hi, hz0, hz1, hz2⟩ := info_parts Tryz.info_term
 have hB1 := (Below.refl _ w).alloc (Nat.le_refl _) (.cells #[.int .i64 9, .int .i64 (-77), .string ⟨#[115, 112, 111, 105, 108, 116]⟩, .slice none 0 0] 24)
 have HB1 := hide hB1
 have HI := hide hi
 have HZ0 := hide hz0
 have HZ1 := hide hz1
 have HZ2 := hide hz2
 clear hB1 hi hz0 hz1 hz2
 go_enter Tryz.func34, Tryz.ntmps34
 go_wp2_with fail
 go_loopw [12] (fun i wr => i = .int .i64 0 ∧ wr = w.alloc (.cells #[.int .i64 9, .int .i64 (-77), .string ⟨#[115, 112, 111, 105, 108, 116]⟩, .slice none 0 0] 24)) (fun i _ => 0)
 case atStart => exact ⟨rfl, rfl⟩
 case round =>
  obtain ⟨rfl, hwr⟩ := hrel
  have c0 : wr.cell? ⟨w.heap.size, 0, none⟩ = some (.int .i64 9) := by rw [hwr]; simp
  have c1 : wr.cell? ⟨w.heap.size, 1, none⟩ = some (.int .i64 (-77)) := by rw [hwr]; simp
  have c2 : wr.cell? ⟨w.heap.size, 2, none⟩ = some (.string ⟨#[115, 112, 111, 105, 108, 116]⟩) := by rw [hwr]; simp
  have c3 : wr.cell? ⟨w.heap.size, 3, none⟩ = some (.slice none 0 0) := by rw [hwr]; simp
  have hb0 : Below w.heap.size w wr := by rw [hwr]; exact unhide HB1
  clear hwr HB1
  have hbA : Below wr.heap.size wr (wr.alloc (.cells #[.int .i64 9, .int .i64 (-77), .string ⟨#[115, 112, 111, 105, 108, 116]⟩, .slice none 0 0, .int .i64 9, .int .i64 (-77), .string ⟨#[115, 112, 111, 105, 108, 116]⟩, .slice none 0 0, .int .i64 9, .int .i64 (-77), .string ⟨#[115, 112, 111, 105, 108, 116]⟩, .slice none 0 0] 24)) := (Below.refl _ wr).alloc (Nat.le_refl _) _
  have hnew := m12_new wr
  generalize hWA : wr.alloc (.cells #[.int .i64 9, .int .i64 (-77), .string ⟨#[115, 112, 111, 105, 108, 116]⟩, .slice none 0 0, .int .i64 9, .int .i64 (-77), .string ⟨#[115, 112, 111, 105, 108, 116]⟩, .slice none 0 0, .int .i64 9, .int .i64 (-77), .string ⟨#[115, 112, 111, 105, 108, 116]⟩, .slice none 0 0] 24) = WA at hbA hnew
  have hrun := run_append_grow (P := Tryz.prog) WA 22 22 24 i0 _ Tryz.underlying22 (unhide HI) (unhide HZ0) ad 0 0 [] (by simp) (fun j v h => by simp at h) ⟨wr.heap.size, 0, none⟩ 3 3 m12 (by rw [unhide HZ1]; rfl) hnew (by omega) (by omega) (by rw [unhide HZ2, show Builtin.nextslicecap (0 + 3) 0 = 3 by decide]; omega)
  have hfin := ((hb0.trans (hbA.mono hb0.size)).drew.alloc (show w.heap.size ≤ WA.drew.heap.size from Nat.le_trans hb0.size hbA.size) (.cells (([] : List Value).toArray ++ m12.toArray ++ Builtin.zeroCells (Value.agg #[.int .i64 0, .int .i64 0, .string ⟨#[]⟩, .slice none 0 0]).cells (grownCap WA (0 + 3) 0 24 - (0 + 3))) 24))
  have HR := hide hrun
  have HF := hide hfin
  have HWA := hide hWA
  clear hrun hfin hWA hbA hnew
  go_wp2_with (at_builtin; go_must (rw [unhide HWA]; refine wpList_app_run _ rfl _ _ 22 22 rfl (unhide HR) ?_))
  exact bodyPost_end (v := .tuple #[]) (by simp [results, Tryz.results34, go_sem]) rfl ⟨rfl, unhide HF⟩
def CanP (S : Nat → Prop) {n : Nat} (x : TV) (t : Tm n) (W : World) : Prop := t.tv = x ∧ SpT S W t ∧ IsT W.heap.size W t
theorem spoilTerm_sp (S : Nat → Prop) : ∀ (n : Nat) (t : Tm n) (W : World), (∀ k, S k → k < W.heap.size) → SpT S W t → IsT W.heap.size W t →
  Calls Tryz.prog 10 #[t.tv.val] W fun e W' => e = .returned (.tuple #[]) ∧ Spoils S W W' := by
 intro n
 induction n with
 | zero => intro t; exact Empty.elim t
 | succ n ih =>
  intro t W hhi hw hT
  obtain ⟨⟨k, N, s, a, len, cap⟩, kids⟩ := t
  have hlen : len ≤ 9223372036854775807 := hT.2.1.1
  have hB1 := (Below.refl _ W).alloc (Nat.le_refl _) (.cells #[.int .i64 k, .int .i64 N, .string s, .slice a len cap] 24)
  have hbox := BoxT.new W ⟨k, N, s, a, len, cap⟩
  have hs0 : Spoils S W (W.alloc (.cells #[.int .i64 k, .int .i64 N, .string s, .slice a len cap] 24)) := Spoils.of_below hB1
  obtain ⟨t0, ht0, hw0, hT0⟩ := SpT.spoilt hs0 hw hT
  have HB := hide hbox
  have HS := hide hs0
  have H0 := hide (show CanP S ⟨k, N, s, a, len, cap⟩ t0 (W.alloc (.cells #[.int .i64 k, .int .i64 N, .string s, .slice a len cap] 24)) from ⟨ht0, hw0, hT0⟩)
  have HI := hide ih
  clear hw hT hB1 hbox hs0 ht0 hw0 hT0 ih
  simp only [TV.val, Tm.tv]
  go_enter Tryz.func10, Tryz.ntmps10
  go_wp2_with fail
  go_loopw [6] (fun i wr => ∃ (j : Nat) (t' : Tm (n + 1)), j ≤ len ∧ i = .int .i64 j ∧ Spoils S W wr ∧ BoxT wr W.heap.size ⟨k, N, s, a, len, cap⟩ ∧ CanP S ⟨k, N, s, a, len, cap⟩ t' wr) (fun i _ => len - (intOf i).toNat)
  case atStart => exact ⟨0, t0, Nat.zero_le _, rfl, unhide HS, unhide HB, unhide H0⟩
  case round =>
   obtain ⟨j, t', hj, rfl, hsp, hbx, hcan⟩ := hrel
   have x3 := hbx.c3
   simp only at x3
   have hsz := hsp.size
   by_cases hlt : j < len
   ·obtain ⟨ht', hw', hT'⟩ := hcan
    obtain ⟨tv', kids'⟩ := t'
    have hvv : tv' = ⟨k, N, s, a, len, cap⟩ := ht'
    subst hvv
    have hkl : len = kids'.length := hT'.1
    obtain ⟨u, hu⟩ : ∃ u, kids'[j]? = some u := ⟨kids'[j]'(by omega), List.getElem?_eq_getElem (by omega)⟩
    have hne : kids' ≠ [] := by rintro rfl; simp at hu
    obtain ⟨b, off, ha, hbk, hk⟩ := hT'.2.2.2.resolve_left hne
    have ha2 : a = some ⟨b, off, none⟩ := ha
    subst ha2
    obtain ⟨⟨c0, c1, c2, c3⟩, hTu⟩ := hk j u hu
    have hcall := (unhide HI) u wr (fun k hk => by have := hhi k hk; omega) (hw'.2 u (List.mem_of_getElem? hu)) hTu
    simp only [TV.val] at hcall
    have hnext : ∀ W2, Spoils S wr W2 → Spoils S W W2 ∧ BoxT W2 W.heap.size ⟨k, N, s, some ⟨b, off, none⟩, len, cap⟩ ∧ ∃ t2 : Tm (n + 1), CanP S ⟨k, N, s, some ⟨b, off, none⟩, len, cap⟩ t2 W2 := fun W2 h2 => by
     obtain ⟨t2, e1, e2, e3⟩ := SpT.spoilt h2 hw' hT'
     exact ⟨hsp.trans h2, (h2.other _ hbx.lt (fun h => by have := hhi _ h; omega)).trans hbx, t2, e1, e2, e3⟩
    have HN := hide hnext
    have hj1 : (j : Int) < len := by omega
    clear hnext hw' hT' hsp hbx ht' hkl hu hne ha hk hTu
    go_wp2_with (go_at_call 10; refine hcall.mono ?_; clear hcall; rintro e W2 ⟨rfl, h2⟩)
    obtain ⟨n1, n2, t2, n3⟩ := (unhide HN) W2 h2
    go_roundw
    case rel => exact ⟨j + 1, t2, by omega, by go_num, n1, n2, n3⟩
    case measure => simp [intOf]; omega
   ·have hj1 : ¬ (j : Int) < len := by omega
    have hend : ∀ W5, Below wr.heap.size wr W5 → Calls Tryz.prog 34 #[.slice a len cap, .agg #[.int .i64 9, .int .i64 (-77), .string ⟨#[115, 112, 111, 105, 108, 116]⟩, .slice none 0 0]] W5 fun e W' => e = .returned (.tuple #[]) ∧ Spoils S W W' ∧ W'.cell? ⟨W.heap.size, 3, none⟩ = some (.slice a len cap) := fun W5 h5 => by
     obtain ⟨ht', hw', hT'⟩ := hcan
     obtain ⟨tv', kids'⟩ := t'
     have hvv : tv' = ⟨k, N, s, a, len, cap⟩ := ht'
     subst hvv
     have h05 : Spoils S W W5 := hsp.trans (Spoils.of_below h5)
     have hbx5 : BoxT W5 W.heap.size ⟨k, N, s, a, len, cap⟩ := (h5.block _ hbx.lt).trans hbx
     rcases hw'.1 with ⟨_, e3, e4⟩ | ⟨b, hSb, ha, hc, hb⟩
     ·have e3' : len = 0 := e3
      have e4' : cap = 0 := e4
      subst e3' e4'
      have hnil : Calls Tryz.prog 34 #[.slice a 0 0, .agg #[.int .i64 9, .int .i64 (-77), .string ⟨#[115, 112, 111, 105, 108, 116]⟩, .slice none 0 0]] W5 fun e W' => e = .returned (.tuple #[]) ∧ Below W5.heap.size W5 W' := by
       cases a with
       | none => exact spoiltT_nil W5
       | some ad => exact spoiltT_none ad W5
      exact hnil.mono fun e W' h => ⟨h.1, h05.trans (Spoils.of_below h.2), BoxT.c3 (W := W') (B := W.heap.size) ((h.2.block _ hbx5.lt).trans hbx5)⟩
     ·have ha' : a = some ⟨b, 0, none⟩ := ha
      have hc' : len ≤ cap ∧ (cap ≤ 100000000 ∨ len + 3 ≤ cap ∧ cap ≤ 9223372036854775807) := hc
      subst ha'
      have hrow5 : Row4 W5 b cap := Row4.kept hb (h5.block b (Row4.lt hb))
      exact (spoiltT_row b len cap W5 hrow5 hc'.1 hc'.2).mono fun e W' h => ⟨h.1, h05.trans (h.2.spoils hrow5 hSb), BoxT.c3 (W := W') (B := W.heap.size) ((h.2.other _ hbx5.lt (fun e => by have := hhi b hSb; omega)).trans hbx5)⟩
    have HE := hide hend
    have hlt5 := hbx.lt
    clear hend hcan hbx hsp
    go_wp2_with fail
    go_region_held3 (fun w' => w'.cell? ⟨W.heap.size, 3, none⟩ = some (.slice a len cap)) (go_keep) (first | (go_at_call 23; refine (markTerm_any _).mono ?_; rintro e W4 ⟨rfl, hW4⟩; have hb4 : Below wr.heap.size wr W4 := (by rw [hW4]; exact (Below.refl _ wr).drew.alloc (Nat.le_refl _) _); have x4 := (hb4.cell (p := ⟨W.heap.size, 3, none⟩) hlt5).trans x3; clear hW4; simp only [markV, TV.val]) | (go_at_call 34; refine ((unhide HE) _ hb4).mono ?_; rintro e W6 ⟨rfl, h6, x6⟩))
    exact bodyPost_end (v := .tuple #[]) (by simp [results, Tryz.results10, go_sem]) rfl ⟨rfl, h6⟩
end Go.Proofs.YtlbobmebbllifaaGreat
