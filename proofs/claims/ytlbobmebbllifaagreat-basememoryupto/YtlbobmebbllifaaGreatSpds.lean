import Derived.Test.YtlbobmebbllifaaGreatOs
import Derived.Maps.AppendAt
import Derived.Test.YtlbobmebbllifaaGreatQs
/- The contract of hornkeep.spoilTerm. -/
namespace Go.Proofs.YtlbobmebbllifaaGreat
open Go.RowKit Go.Shelf
theorem Spoilt.spoils {S : Nat → Prop} {A B : World} {b cap : Nat} (h : Spoilt A b cap B) (hr : Row4 A b cap) (hs : S b) : Spoils S A B := by
 refine ⟨h.os, h.tape, h.output, h.size, fun k hk hn => h.other k hk (fun e => hn (e ▸ hs)), fun k c hk hc => ?_, fun k hk hn => h.other k hk (fun e => hn cap (e ▸ hr))⟩
 by_cases e : k = b
 ·subst e
  have := hr.cap hc
  subst this
  exact .inr h.mks
 ·exact .inl (h.other k hc.lt e)
set_option maxRecDepth 100000 in
set_option maxHeartbeats 1000000 in
theorem spoiltT_nil (w : World) :
  Calls Tryz.prog 34 #[.slice none 0 0, .agg #[.int .i64 9, .int .i64 (-77), .string ⟨#[115, 112, 111, 105, 108, 116]⟩, .slice none 0 0]] w fun e W' => e = .returned (.tuple #[]) ∧ Below w.heap.size w W' := by
 obtain ⟨i0, hi, hz0, hz1, hz2⟩ := info_parts Tryz.info_term
 have hB1 := (Below.refl _ w).alloc (Nat.le_refl _) (.cells #[.int .i64 9, .int .i64 (-77), .string ⟨#[115, 112, 111, 105, 108, 116]⟩, .slice none 0 0] 24)
 have HB1 := hide hB1
 have HI := hide hi
 have HZ0 := hide hz0
 have HZ1 := hide hz1
 have HZ2 := hide hz2
 clear hB1 hi hz0 hz1 hz2
 go_enter Tryz.func34, Tryz.ntmps34
 go_wp2_with fail
 go_loopw [12] (fun i wr => i = .int .i64 0 ∧ wr = w.alloc (.cells #[.int .i64 9, .int .i64 (-77), .string ⟨#[115, 112, 111, 105, 108, 116]⟩, .slice none 0 0] 24)) (fun i _ => 0)
 case atStart => exact ⟨rfl, rfl⟩
 case round =>
  obtain ⟨rfl, hwr⟩ := hrel
  have c0 : wr.cell? ⟨w.heap.size, 0, none⟩ = some (.int .i64 9) := by rw [hwr]; simp
  have c1 : wr.cell? ⟨w.heap.size, 1, none⟩ = some (.int .i64 (-77)) := by rw [hwr]; simp
  have c2 : wr.cell? ⟨w.heap.size, 2, none⟩ = some (.string ⟨#[115, 112, 111, 105, 108, 116]⟩) := by rw [hwr]; simp
  have c3 : wr.cell? ⟨w.heap.size, 3, none⟩ = some (.slice none 0 0) := by rw [hwr]; simp
  have hb0 : Below w.heap.size w wr := by rw [hwr]; exact unhide HB1
  clear hwr HB1
  have hbA : Below wr.heap.size wr (wr.alloc (.cells #[.int .i64 9, .int .i64 (-77), .string ⟨#[115, 112, 111, 105, 108, 116]⟩, .slice none 0 0, .int .i64 9, .int .i64 (-77), .string ⟨#[115, 112, 111, 105, 108, 116]⟩, .slice none 0 0, .int .i64 9, .int .i64 (-77), .string ⟨#[115, 112, 111, 105, 108, 116]⟩, .slice none 0 0] 24)) := (Below.refl _ wr).alloc (Nat.le_refl _) _
  have hnew := m12_new wr
  generalize hWA : wr.alloc (.cells #[.int .i64 9, .int .i64 (-77), .string ⟨#[115, 112, 111, 105, 108, 116]⟩, .slice none 0 0, .int .i64 9, .int .i64 (-77), .string ⟨#[115, 112, 111, 105, 108, 116]⟩, .slice none 0 0, .int .i64 9, .int .i64 (-77), .string ⟨#[115, 112, 111, 105, 108, 116]⟩, .slice none 0 0] 24) = WA at hbA hnew
  have hrun := run_append_nil (P := Tryz.prog) WA 22 22 24 i0 _ Tryz.underlying22 (unhide HI) (unhide HZ0) ⟨wr.heap.size, 0, none⟩ 3 3 m12 (by rw [unhide HZ1]; rfl) hnew (by omega) (by omega) (by rw [unhide HZ2]; omega)
  have hfin := ((hb0.trans (hbA.mono hb0.size)).drew.alloc (show w.heap.size ≤ WA.drew.heap.size from Nat.le_trans hb0.size hbA.size) (.cells (m12.toArray ++ Builtin.zeroCells (Value.agg #[.int .i64 0, .int .i64 0, .string ⟨#[]⟩, .slice none 0 0]).cells (grownCap WA 3 0 24 - 3)) 24))
  have HR := hide hrun
  have HF := hide hfin
  have HWA := hide hWA
  clear hrun hfin hWA hbA hnew
  go_wp2_with (at_builtin; go_must (rw [unhide HWA]; refine wpList_app_run _ rfl _ _ 22 22 rfl (unhide HR) ?_))
  exact bodyPost_end (v := .tuple #[]) (by simp [results, Tryz.results34, go_sem]) rfl ⟨rfl, unhide HF⟩
/- The contract of hornkeep.roomy at terms. -/
open Go.Maps
theorem make_room (n : Nat) (h : n ≤ 100000000) (w : World) : (Instr.makeSlice 22 (.int .i64 0) (.int .i64 ((n : Int) + 3))).run Tryz.prog w = .ok (.slice (some ⟨w.heap.size, 0, none⟩) 0 (n + 3)) (w.alloc (.cells (madeCells #[.int .i64 0, .int .i64 0, .string ⟨#[]⟩, .slice none 0 0] ((n + 3) * 4)) 24)) := by
 obtain ⟨i0, hi, hz0, hz1, hz2⟩ := info_parts Tryz.info_term
 have hr := run_make (P := Tryz.prog) w 22 24 i0 _ Tryz.underlying22 hi hz0 .i64 .i64 0 ((n : Int) + 3) (by omega) (by omega) (by rw [hz2]; omega) (by omega)
 rw [hz1, show ((n : Int) + 3).toNat = n + 3 by omega] at hr
 simpa [Value.cells] using hr
structure Roomy (base : Nat) (W : World) (v : Value) (n : Nat) (ys : List Value) : Prop where
 ex : ∃ g cap cur, v = .slice (some ⟨g, 0, none⟩) n cap ∧ base ≤ g ∧ W.heap[g]? = some (Obj.cells cur 24 (0, 0)) ∧ cur.size = cap * 4 ∧ (n + 3 ≤ cap ∧ cap ≤ 9223372036854775807) ∧ cur.toList.take ((n + 3) * 4) = ys ++ m12
set_option maxRecDepth 100000 in
set_option maxHeartbeats 1000000 in
theorem roomyT_any (b off n c : Nat) (ys : List Value) (w : World) (hn : n ≤ 4194304) (hl : ys.length = n * 4) (hcell : ∀ j u, ys[j]? = some u → w.cell? ((⟨b, off, none⟩ : Addr).add j) = some u) (hone : ∀ u ∈ ys, u.oneCell' = true) (hb : b < w.heap.size) :
  Calls Tryz.prog 22 #[.slice (some ⟨b, off, none⟩) n c, .agg #[.int .i64 9, .int .i64 (-77), .string ⟨#[115, 112, 111, 105, 108, 116]⟩, .slice none 0 0]] w fun e W' => ∃ v, e = .returned v ∧ Below w.heap.size w W' ∧ Roomy w.heap.size W' v n ys := by
 obtain ⟨i0, hi, hz0, hz1, hz2⟩ := info_parts Tryz.info_term
 obtain ⟨W1, hW1⟩ : ∃ W1, W1 = w.alloc (.cells #[.int .i64 9, .int .i64 (-77), .string ⟨#[115, 112, 111, 105, 108, 116]⟩, .slice none 0 0] 24) := ⟨_, rfl⟩
 have hB1 : Below w.heap.size w W1 := by rw [hW1]; exact (Below.refl _ w).alloc (Nat.le_refl _) _
 have hbx1 : BoxT W1 w.heap.size markV := by rw [hW1]; exact BoxT.new w markV
 have hmk := make_room n (by omega) W1
 obtain ⟨W2, hW2⟩ : ∃ W2, W2 = W1.alloc (.cells (madeCells #[.int .i64 0, .int .i64 0, .string ⟨#[]⟩, .slice none 0 0] ((n + 3) * 4)) 24) := ⟨_, rfl⟩
 rw [← hW2] at hmk
 have hB2 : Below W1.heap.size W1 W2 := by rw [hW2]; exact (Below.refl _ W1).alloc (Nat.le_refl _) _
 have hown2 : W2.ownsRow (w.heap.size + 1) 24 4 (.slice (some ⟨W1.heap.size, 0, none⟩) 0 (n + 3)) 0 [] :=
  ⟨rfl, .inr ⟨W1.heap.size, n + 3, _, rfl, by rw [hW1]; simp, by rw [hW2]; exact heap_alloc_new W1 _, Nat.zero_le _, by unfold maxLen; omega, size_madeCells _ _, by simp⟩⟩
 have hbx2 : BoxT W2 w.heap.size markV := (hB2.block _ hbx1.lt).trans hbx1
 have hB12 : Below w.heap.size w W2 := hB1.trans (hB2.mono hB1.size)
 have hcell2 : ∀ j u, ys[j]? = some u → W2.cell? ((⟨b, off, none⟩ : Addr).add j) = some u := fun j u hj => by
  have := hcell j u hj
  rw [addr_add] at this ⊢
  exact (hB12.cell (p := ⟨b, _, none⟩) hb).trans this
 have hz : W1.heap.size = w.heap.size + 1 := by rw [hW1]; simp
 rw [hz] at hmk hown2
 rw [hW1] at hmk
 have HI := hide hi
 have HZ0 := hide hz0
 have HZ1 := hide hz1
 have HZ2 := hide hz2
 have HO := hide hown2
 have HC := hide hcell2
 have HB := hide hB12
 have HX := hide hbx2
 have HONE := hide hone
 have HL := hide hl
 have HSZ := hide (show w.heap.size + 1 ≤ W2.heap.size by have := hB2.size; omega)
 clear hi hz0 hz1 hz2 hown2 hcell2 hB12 hbx2 hW1 hW2 hB1 hB2 hbx1 hcell hone hl hz
 go_enter Tryz.func22, Tryz.ntmps22
 have hnn : (n : Int) ≤ 4194304 := by omega
 go_wp2_with (first | (at_builtin; refine wpList_append_own_at _ rfl _ _ 22 rfl (w.heap.size + 1) 24 i0 _ 4 56 Tryz.underlying22 (unhide HI) (unhide HZ0) (unhide HZ1) (unhide HZ2) rfl (by decide) (.slice (some ⟨w.heap.size + 1, 0, none⟩) 0 (n + 3)) 0 [] rfl (unhide HO) ⟨b, off, none⟩ n c ys rfl (unhide HL) (unhide HC) (unhide HONE) (by unfold maxLen; omega) (by omega) (unhide HSZ) ?_; intro v3 W3 hown3 hgrow3 hnil3 hbk3; have hbx3 : BoxT W3 w.heap.size markV := (hgrow3.block w.heap.size (by have := unhide HSZ; omega) (by simp [Value.ownBlock])).trans (unhide HX); have c0 := hbx3.c0; have c1 := hbx3.c1; have c2 := hbx3.c2; have c3 := hbx3.c3; simp only [markV] at c0 c1 c2 c3; have HG3 := hide hgrow3; have HO3 := hide hown3; have HX3 := hide hbx3; have hsz3 : w.heap.size + 1 ≤ W3.heap.size := Nat.le_trans (unhide HSZ) hgrow3.size; have hb3 : Below w.heap.size w W3 := (unhide HB).grown hgrow3 (by have := unhide HSZ; omega) (fun k hk => by simp [Value.ownBlock] at hk; omega); have HN3 := hide (m12_new W3); clear hgrow3 hown3 hnil3 hbk3 hbx3 hmk) | (at_builtin; go_must (refine wpList_append_own_at _ rfl _ _ 22 rfl (w.heap.size + 1) 24 i0 _ 4 56 Tryz.underlying22 (unhide HI) (unhide HZ0) (unhide HZ1) (unhide HZ2) rfl (by decide) v3 (0 + n) ([] ++ ys) rfl (World.ownsRow.alloc (unhide HO3) _) ⟨W3.heap.size, 0, none⟩ 3 3 m12 rfl rfl (unhide HN3) m12_one (by unfold maxLen; omega) (by omega) (by simp; omega) ?_; intro v4 W4 hown4 hgrow4 hnil4 hbk4; obtain ⟨g, cap, cur, hv4, hg1, hg2, hg3, hg4, hg5, hg6⟩ := hown4.2.resolve_left (fun h => by omega); subst hv4; have hb4 : Below w.heap.size w W4 := (hb3.alloc (by omega) _).grown hgrow4 (by simp; omega) (fun k hk => by have := ((unhide HO3).lt k hk).1; omega); have hroomy : Roomy w.heap.size W4 (.slice (some ⟨g, 0, none⟩) n cap) n ys := ⟨⟨g, cap, cur, rfl, by omega, hg2, hg5, ⟨by omega, by unfold maxLen at hg4; omega⟩, by simpa using hg6⟩⟩; have hle : n ≤ cap := (by omega); have HF := hide (And.intro hb4 hroomy); clear hb4 hroomy hown4 hgrow4 hnil4 hbk4 hg1 hg2 hg3 hg4 hg5 hg6)))
 go_ret
 exact ⟨_, rfl, (unhide HF).1, (unhide HF).2⟩
/- Terms with three marks behind each row of Args: what hornkeep.own makes. -/
def RmT (W : World) : {n : Nat} → Tm n → Prop
 | 0, _ => True
 | _ + 1, t => ((t.kids = [] ∧ t.tv.cap = 0) ∨ ((t.tv.len + 3 ≤ t.tv.cap ∧ t.tv.cap ≤ 9223372036854775807 ∧ t.kids ≠ []) ∧ ∃ b, t.tv.a = some ⟨b, 0, none⟩ ∧ Row4 W b t.tv.cap ∧ ∀ i, i < 3 → cellsAt W b ((t.tv.len + i) * 4) markV)) ∧ ∀ u ∈ t.kids, RmT W u
theorem RmT.fromS {S : Nat → Prop} {A B : World} (hs : ∀ b, S b → B.heap[b]? = A.heap[b]?) : ∀ {n : Nat} {t : Tm n}, RmT A t → BlkT S t → RmT B t := by
 intro n
 induction n with
 | zero => intro t; exact Empty.elim t
 | succ n ih =>
  intro t hr hb
  obtain ⟨r1, r2⟩ := hr
  obtain ⟨b1, b2⟩ := hb
  refine ⟨?_, fun u hu => ih (r2 u hu) (b2 u hu)⟩
  rcases r1 with r1 | ⟨hc, b, ha, hw, hm⟩
  ·exact .inl r1
  ·rcases b1 with b1 | ⟨b', off, ha', hS⟩
   ·exact absurd b1 hc.2.2
   ·rw [ha] at ha'
    simp at ha'
    obtain ⟨rfl, rfl⟩ := ha'
    exact .inr ⟨hc, b, ha, hw.kept (hs b hS), fun i hi => (hm i hi).kept (hs b hS)⟩
structure Owned (lo : Nat) (W : World) {n : Nat} (t : Tm n) : Prop where
 is : IsT W.heap.size W t
 rm : RmT W t
 blk : BlkT (lo ≤ ·) t
theorem Owned.fromS {lo : Nat} {A B : World} {n : Nat} {t : Tm n} (h : Owned lo A t) {S : Nat → Prop} (hS : BlkT S t) (hs : ∀ b, S b → b < A.heap.size → lo ≤ b → B.heap[b]? = A.heap[b]?) (hz : A.heap.size ≤ B.heap.size) : Owned lo B t := by
 have hb := (hS.and h.is.blk).and h.blk
 exact ⟨(h.is.fromS (fun b (h : (S b ∧ b < A.heap.size) ∧ lo ≤ b) => hs b h.1.1 h.1.2 h.2) hb).mono hz, h.rm.fromS (fun b (h : (S b ∧ b < A.heap.size) ∧ lo ≤ b) => hs b h.1.1 h.1.2 h.2) hb, h.blk⟩
theorem Owned.below {lo : Nat} {A B : World} {n : Nat} {t : Tm n} (h : Owned lo A t) (hb : Below A.heap.size A B) : Owned lo B t := h.fromS h.is.blk (fun b _ hl _ => hb.block b hl) hb.size
theorem Owned.mono {lo lo' : Nat} {A : World} {n : Nat} {t : Tm n} (h : Owned lo A t) (hl : lo' ≤ lo) : Owned lo' A t := ⟨h.is, h.rm, h.blk.mono fun _ h => Nat.le_trans hl h⟩
structure MadeR {n : Nat} (lo base : Nat) (W : World) (v : Value) (l : List TV) (ks : List (Tm n)) : Prop where
 owns : W.ownsRow base 24 4 v l.length (l.flatMap TV.row)
 tvs : ks.map Tm.tv = l
 kid : ∀ u ∈ ks, Owned lo W u ∧ BlkT (fun b => v.ownBlock ≠ some b) u
theorem MadeR.zero {n : Nat} (lo base : Nat) (W : World) : MadeR (n := n) lo base W (.slice none 0 0) [] [] := ⟨⟨rfl, .inl ⟨rfl, rfl⟩⟩, rfl, fun u hu => by cases hu⟩
theorem MadeR.next {n lo base : Nat} {W W5 w' : World} {v v' : Value} {l : List TV} {ks : List (Tm n)} {u : Tm n} (h : MadeR lo base W v l ks) (hb : Below W.heap.size W W5) (hu : Owned W.heap.size W5 u) (hlo : lo ≤ W.heap.size)
  (hown : w'.ownsRow base 24 4 v' (l.length + 1) (l.flatMap TV.row ++ u.tv.row)) (hg : (W5.alloc (.cells #[.int .i64 u.tv.k, .int .i64 u.tv.N, .string u.tv.s, .slice u.tv.a u.tv.len u.tv.cap] 24)).grownBy w' v.ownBlock)
  (hbk : v'.ownBlock = v.ownBlock ∨ v'.ownBlock = some (W5.heap.size + 1)) : MadeR lo base w' v' (l ++ [u.tv]) (ks ++ [u]) := by
 have hsz : W5.heap.size + 1 ≤ w'.heap.size := by have := hg.size; simpa using this
 have hsame : ∀ b, b < W5.heap.size → v.ownBlock ≠ some b → w'.heap[b]? = W5.heap[b]? := fun b hb1 hne =>
  (hg.block b (by simp; omega) (fun e => hne e.symm)).trans (Below.heap_alloc _ _ _ hb1)
 have key : ∀ z : Tm n, Owned lo W5 z → BlkT (fun b => v.ownBlock ≠ some b) z → Owned lo w' z ∧ BlkT (fun b => v'.ownBlock ≠ some b) z := fun z hz hzS => by
  refine ⟨hz.fromS hzS (fun b h1 h2 _ => hsame b h2 h1) (by omega), (hzS.and hz.is.blk).mono fun b hb' => ?_⟩
  rcases hbk with e | e
  ·rw [e]; exact hb'.1
  ·rw [e]; intro e'; simp at e'; have := hb'.2; omega
 refine ⟨by simpa [List.flatMap_append] using hown, by simp [h.tvs], fun z hz => ?_⟩
 rcases List.mem_append.1 hz with hz | hz
 ·obtain ⟨z1, z2⟩ := h.kid z hz
  exact key z (z1.below hb) z2
 ·simp at hz
  subst hz
  refine key z (hu.mono hlo) (hu.blk.mono fun b (hb' : W.heap.size ≤ b) e => ?_)
  have := (owns_lt h.owns e).2
  omega
theorem m12_cells {W : World} {g : Nat} {cur : Array Value} {n : Nat} {ys : List Value} (hb : W.heap[g]? = some (Obj.cells cur 24 (0, 0))) (hy : ys.length = n * 4) (ht : cur.toList.take ((n + 3) * 4) = ys ++ m12) :
  (∀ j u, ys[j]? = some u → W.cell? ⟨g, j, none⟩ = some u) ∧ ∀ i, i < 3 → cellsAt W g ((n + i) * 4) markV := by
 have hc : ∀ q u, (ys ++ m12)[q]? = some u → W.cell? ⟨g, q, none⟩ = some u := fun q u hq => by
  rw [← ht, List.getElem?_take] at hq
  split at hq
  ·simp [World.cell?, hb]
   simpa using hq
  ·cases hq
 refine ⟨fun j u hu => hc j u (by rw [List.getElem?_append_left (List.getElem?_eq_some_iff.1 hu).1]; exact hu), fun i hi => ?_⟩
 have hm : ∀ r u, r < 4 → m4[r]? = some u → W.cell? ⟨g, (n + i) * 4 + r, none⟩ = some u := fun r u hr hu => hc _ u (by
  rw [List.getElem?_append_right (by omega), hy, show (n + i) * 4 + r - n * 4 = i * 4 + r by omega, m12_at i r hi hr]
  exact hu)
 exact ⟨hm 0 _ (by omega) rfl, hm 1 _ (by omega) rfl, hm 2 _ (by omega) rfl, hm 3 _ (by omega) rfl⟩
theorem owned_end {n : Nat} {W V : World} {k N : Int} {s : ByteArray} {len g cap : Nat} {l : List TV} {ks : List (Tm n)} (hl : l.length = len) (hpos : 0 < len) (hs : s.size ≤ 9223372036854775807) (hlen : len ≤ 9223372036854775807) (hlim : n + 1 ≤ 2199023255552) (hB : Below W.heap.size W V) (htv : ks.map Tm.tv = l)
  (hk : ∀ u ∈ ks, Owned (W.heap.size + 2) V u) (hr : Roomy (W.heap.size + 2) V (.slice (some ⟨g, 0, none⟩) len cap) len (l.flatMap TV.row)) :
  let x : TV := ⟨k, N, s, some ⟨g, 0, none⟩, len, cap⟩
  Below W.heap.size W (set4 (V.setCell ⟨W.heap.size, 3, none⟩ (.slice (some ⟨g, 0, none⟩) len cap)) (W.heap.size + 1) 0 x) ∧ Owned W.heap.size (set4 (V.setCell ⟨W.heap.size, 3, none⟩ (.slice (some ⟨g, 0, none⟩) len cap)) (W.heap.size + 1) 0 x) (n := n + 1) ((x, ks) : TV × List (Tm n)) := by
 intro x
 obtain ⟨g', cap', cur, e, hg, hbk, hsz, hcap, htk⟩ := hr.ex
 simp only [Value.slice.injEq, Option.some.injEq, Addr.mk.injEq, and_true, true_and] at e
 obtain ⟨rfl, rfl⟩ := e
 have hother : ∀ b, b ≠ W.heap.size → b ≠ W.heap.size + 1 → (set4 (V.setCell ⟨W.heap.size, 3, none⟩ (.slice (some ⟨g, 0, none⟩) len cap)) (W.heap.size + 1) 0 x).heap[b]? = V.heap[b]? := fun b h1 h2 =>
  (set4_other _ _ 0 x h2).trans (Below.heap_setCell _ _ _ _ h1)
 have hsz' : (set4 (V.setCell ⟨W.heap.size, 3, none⟩ (.slice (some ⟨g, 0, none⟩) len cap)) (W.heap.size + 1) 0 x).heap.size = V.heap.size := by rw [set4_size]; simp
 have hgl : g < V.heap.size := (Array.getElem?_eq_some_iff.1 hbk).1
 obtain ⟨hrow, hmk⟩ := m12_cells hbk (by rw [row_len, hl]) htk
 have hkl : ks.length = len := by rw [← hl, ← htv]; simp
 have hk' : ∀ u ∈ ks, Owned (W.heap.size + 2) (set4 (V.setCell ⟨W.heap.size, 3, none⟩ (.slice (some ⟨g, 0, none⟩) len cap)) (W.heap.size + 1) 0 x) u := fun u hu => (hk u hu).fromS (hk u hu).is.blk (fun b _ _ h => hother b (by omega) (by omega)) (by rw [hsz']; exact Nat.le_refl _)
 have hgk := hother g (by omega) (by omega)
 refine ⟨set4_below (hB.setCell (p := ⟨W.heap.size, 3, none⟩) (Nat.le_refl _) _) (by omega) 0 x, ⟨hkl.symm, ⟨hlen, by show len ≤ cap; omega, hlim⟩, hs, .inr ⟨g, 0, rfl, by rw [hsz']; exact hgl, fun j u hu => ⟨?_, (hk' u (List.mem_of_getElem? hu)).is⟩⟩⟩, ⟨.inr ⟨⟨hcap.1, hcap.2, fun e => by rw [show ks = [] from e] at hkl; simp at hkl; omega⟩, g, rfl, ⟨cur, hgk.trans hbk, hsz⟩, fun i hi => (hmk i hi).kept hgk⟩, fun u hu => (hk' u hu).rm⟩, ⟨.inr ⟨g, 0, rfl, by omega⟩, fun u hu => ((hk' u hu).mono (by omega)).blk⟩⟩
 have hu' : ks[j]? = some u := hu
 have hlj : l[j]? = some u.tv := by rw [← htv, List.getElem?_map, hu']; rfl
 obtain ⟨r0, r1, r2, r3⟩ := row_at l j u.tv hlj
 rw [Nat.zero_add]
 exact cellsAt.kept ⟨hrow _ _ r0, hrow _ _ r1, hrow _ _ r2, hrow _ _ r3⟩ hgk
theorem owned_leaf {n lo : Nat} {W : World} {k N : Int} {s : ByteArray} (hs : s.size ≤ 9223372036854775807) (hlim : n + 1 ≤ 2199023255552) : Owned lo W (n := n + 1) ((⟨k, N, s, none, 0, 0⟩, []) : TV × List (Tm n)) :=
 ⟨⟨rfl, ⟨by show (0 : Nat) ≤ _; omega, by show (0 : Nat) ≤ 0; omega, hlim⟩, hs, .inl rfl⟩, ⟨.inl ⟨rfl, rfl⟩, fun u hu => by cases hu⟩, ⟨.inl rfl, fun u hu => by cases hu⟩⟩
end Go.Proofs.YtlbobmebbllifaaGreat
