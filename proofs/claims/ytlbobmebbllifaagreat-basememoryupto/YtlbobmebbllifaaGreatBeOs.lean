import Derived.Test.YtlbobmebbllifaaGreatBmDs
/- base's All. -/
namespace Go.Proofs.YtlbobmebbllifaaGreat
open Go.RowKit Go.Shelf Go.Maps
theorem next_ptr (w : World) {ops : Array Oper} {rest : List Oper} {o : Oper} {a : Act} {Q : Exit → Act → World → Prop} (hg : o.guard = none) (it : Operand) (hop : o.op = Op.next it false)
  (b r n : Nat) (E : DataW (Option Addr)) (left : Lit → Bool) (cnt : Nat) (hit : a.eval it = .pointer (some ⟨r, 0, none⟩)) (h : w.ranges Tryz.prog 3 ptrElem b r n E left cnt)
  (hDone : cnt = 0 → (∀ kl, left kl = false) → wpList Tryz.prog ops Q rest (a.put o.dst (.tuple #[.bool false])) w)
  (hMore : ∀ (N : Int) (p : Option Addr) (w' : World) (cnt' : Nat), left (.int .i64 N) = true → (∀ zd, E.atKey (.int .i64 N) zd = .held p) → w'.ranges Tryz.prog 3 ptrElem b r n E (fun z => left z && !z.sameKey (.int .i64 N)) cnt' → cnt' < cnt →
   w.grownBy w' (some r) → w'.heap.size = w.heap.size → (Instr.entry (.pointer (some ⟨r, 0, none⟩))).run Tryz.prog w' = .ok (.tuple #[.int .i64 N, .pointer p]) w' → wpList Tryz.prog ops Q rest (a.put o.dst (.tuple #[.bool true, .int .i64 N, .pointer p])) w') :
  wpList Tryz.prog ops Q (o :: rest) a w :=
 wpList_next_ranges w hg it hop 3 Tryz.keyed3 ptrElem (Value.int .i64) Value.pointer (fun key kl hkey => by obtain ⟨x, rfl, _⟩ := Maps.keyOf_int_inv Tryz.underlying3 hkey; exact ⟨x, rfl⟩) (fun v y hv => by obtain ⟨c, rfl, _⟩ := ptrElem_inv hv; exact ⟨c, rfl⟩)
  b r n E left cnt hit h hDone (fun x c kl y w' cnt' hkey hlk hv hat hrg hlt hgr hsz hen => by
   obtain ⟨x', ex, rfl, hwx⟩ := Maps.keyOf_int_inv Tryz.underlying3 hkey
   cases ex
   obtain ⟨c', ec, rfl⟩ := ptrElem_inv hv
   cases ec
   exact hMore x c w' cnt' hlk hat hrg hlt hgr hsz hen)
theorem make_ints (m : Nat) (h : m ≤ 100000000) (w : World) : (Instr.makeSlice 44 (.int .i64 0) (.int .i64 (m : Int))).run Tryz.prog w = .ok (.slice (some ⟨w.heap.size, 0, none⟩) 0 m) (w.alloc (.cells (madeCells #[.int .i64 0] (m * 1)) 3)) := by
 obtain ⟨i0, hi, hz0, hz1, hz2⟩ := info_parts Tryz.infoI
 have hr := run_make (P := Tryz.prog) w 44 3 i0 _ Tryz.underlying44 hi hz0 .i64 .i64 0 (m : Int) (by omega) (by omega) (by rw [hz2]; omega) (by omega)
 rw [hz1, show ((m : Int)).toNat = m by omega] at hr
 simpa [Value.cells] using hr
theorem srt_pls {E l : List En} (hE : SrtE E) (hin : ∀ x, x ∈ l ↔ x ∈ E) (hn : l.Pairwise fun a b => a.pl ≠ b.pl) : srtI (l.map En.pl) = E.map En.pl := by
 have hp : (l.map En.pl).Perm (E.map En.pl) := by
  refine List.Perm.map _ ?_
  refine (List.perm_ext_iff_of_nodup ?_ ?_).2 hin
  ·exact hn.imp fun h e => h (by rw [e])
  ·exact List.Pairwise.imp (fun h e => by rw [e] at h; omega) hE
 have hs : (E.map En.pl).Pairwise fun a b => decide (a ≤ b) = true := by
  rw [List.pairwise_map]
  exact List.Pairwise.imp (fun h => by simp; omega) hE
 unfold srtI
 rw [List.Perm.eq_of_pairwise (le := fun a b => decide (a ≤ b) = true) (fun a b _ _ h1 h2 => by simp at h1 h2; omega) (List.pairwise_mergeSort (fun a b c h1 h2 => by simp at h1 h2 ⊢; omega) (fun a b => by simp; omega) _) hs ((List.mergeSort_perm _ _).trans hp)]
def idE (e : En) : Int := max e.pl (-e.pl)
theorem ownI_set {lo g cap j : Nat} {W : World} {ns : List Int} (h : OwnI lo W (.slice (some ⟨g, 0, none⟩) ns.length cap) ns) (_hj : j < ns.length) (N : Int) : OwnI lo (W.setCell ⟨g, j, none⟩ (.int .i64 N)) (.slice (some ⟨g, 0, none⟩) ns.length cap) (ns.set j N) := by
 rcases h.2 with ⟨h1, _⟩ | ⟨g', cap', cur, h1, hg, hb, hc1, hc2, hc3, htk⟩
 ·cases h1
 ·simp at h1
  obtain ⟨rfl, rfl⟩ := h1
  obtain ⟨hlt, hk⟩ := Array.getElem?_eq_some_iff.1 hb
  refine ⟨by simp [i64s], .inr ⟨g, cap, cur.setIfInBounds j (.int .i64 N), by simp, hg, ?_, by simpa using hc1, hc2, by simpa using hc3, ?_⟩⟩
  ·show (W.heap.modify g _)[g]? = _
   rw [Array.getElem?_eq_getElem (by rw [Array.size_modify]; exact hlt), Array.getElem_modify_self, hk]
   rfl
  ·rw [Array.toList_setIfInBounds, List.take_set, List.length_set, htk]
   simp [i64s, List.map_set]
theorem sameKey_int (a b : Int) : (Lit.int .i64 a).sameKey (.int .i64 b) = decide (a = b) := by
 simp [Lit.sameKey]
def AllAt (W : World) (me r ce : Nat) (Em : DataW (Option Addr)) (E : List En) (v : Value) (wr : World) : Prop :=
 ∃ (left : Lit → Bool) (cnt : Nat) (l : List En), wr.ranges Tryz.prog 3 ptrElem me r ce Em left cnt ∧ OwnI W.heap.size wr v (l.map En.pl) ∧ (∀ g, v.ownBlock = some g → g ≠ r) ∧ l.length + cnt ≤ Maps.size Em ∧ Below W.heap.size W wr ∧ r < wr.heap.size ∧ (l.Pairwise fun a b => idE a ≠ idE b) ∧ (∀ x ∈ l, x ∈ E ∧ left (.int .i64 (idE x)) = false) ∧ ∀ x ∈ E, left (.int .i64 (idE x)) = true ∨ x ∈ l
set_option maxRecDepth 100000 in
set_option maxHeartbeats 2000000 in
theorem all_any {M : Nat → Prop} {W : World} {b me mf : Nat} {laid : Int} {ce cf : Nat} {ge gf : Lit → Option Addr} {F : Lit → Option Fam} {E : List En} (h : BOK M W b me mf laid ce cf ge gf F E) (hbig : laid ≤ 1048576) :
  Calls Tryz.prog 15 #[.pointer (some ⟨b, 0, none⟩)] W fun e W' => ∃ v, e = .returned v ∧ OwnI W.heap.size W' v (E.map idE) ∧ Below W.heap.size W W' := by
 obtain ⟨Em, e1, e2⟩ := h.ent
 have hsz := e1.size_le
 have hcn := h.cnt
 have hlow := h.low
 have hms : Maps.size Em ≤ 1048576 := by omega
 have hlenm := e1.len Tryz.underlying54 3
 have hmk := make_ints (Maps.size Em) (by omega) W
 obtain ⟨c0, c1, c2, -⟩ := h.base.cs
 have hblt := h.base.lt
 have hmlt := e1.lt
 have hid : ∀ x ∈ E, Maps.has Em (.int .i64 (idE x)) = true := fun x hx => by
  rw [(e2 _).1, h.get, Option.isSome_map]
  rw [List.find?_isSome]
  exact ⟨x, hx, by simp [idE]⟩
 have hent : ∀ N p, (∀ zd, Em.atKey (.int .i64 N) zd = .held p) → Maps.has Em (.int .i64 N) = true → ∃ x ∈ E, idE x = N ∧ p = some ⟨x.eb, 0, none⟩ := fun N p hat hhas => by
  have h1 := (e2 (.int .i64 N)).1
  rw [hhas, h.get N, Option.isSome_map] at h1
  obtain ⟨x, hx⟩ := Option.isSome_iff_exists.1 h1.symm
  have h2 := (e2 (.int .i64 N)).2 ⟨x.eb, 0, none⟩ (by rw [h.get N, hx]; rfl) .nil
  rw [hat] at h2
  exact ⟨x, List.mem_of_find?_eq_some hx, by simpa [idE] using List.find?_some hx, by simpa using h2⟩
 have hpl : ∀ x ∈ E, W.cell? ⟨x.eb, 0, none⟩ = some (.int .i64 x.pl) ∧ x.eb < W.heap.size ∧ -9223372036854775808 < x.pl ∧ x.pl ≤ 9223372036854775807 := fun x hx => by
  have h1 := (h.ents x hx).1
  have h2 := h.pls x hx
  exact ⟨h1.cs.1, h1.lt, by omega, by omega⟩
 have hsrt := h.srt
 have hids : ∀ x y, x ∈ E → y ∈ E → idE x = idE y → x = y := fun x y hx hy e => by
  obtain ⟨i, hi⟩ := List.mem_iff_getElem?.1 hx
  obtain ⟨k, hk⟩ := List.mem_iff_getElem?.1 hy
  obtain ⟨hil, hi'⟩ := List.getElem?_eq_some_iff.1 hi
  obtain ⟨hkl, hk'⟩ := List.getElem?_eq_some_iff.1 hk
  have hp := List.pairwise_iff_getElem.1 h.ids
  have hq := List.pairwise_iff_getElem.1 h.srt
  unfold idE at e
  rcases Nat.lt_trichotomy i k with hlt | heq | hgt
  ·have h1 := hp i k hil hkl hlt
   have h2 := hq i k hil hkl hlt
   rw [hi', hk'] at h1 h2
   omega
  ·subst heq
   rw [← hi', ← hk']
  ·have h1 := hp k i hkl hil hgt
   have h2 := hq k i hkl hil hgt
   rw [hi', hk'] at h1 h2
   omega
 have HIDS := hide hids
 have HID := hide hid
 have HENT := hide hent
 have HPL := hide hpl
 have HSRT := hide hsrt
 obtain ⟨W1, hW1⟩ : ∃ W1, W.alloc (.cells (madeCells #[.int .i64 0] (Maps.size Em * 1)) 3) = W1 := ⟨_, rfl⟩
 have hb1 : Below W.heap.size W W1 := by rw [← hW1]; exact (Below.refl _ W).alloc (Nat.le_refl _) _
 have hs1 : W1.heap.size = W.heap.size + 1 := by rw [← hW1]; simp
 have how1 : OwnI W.heap.size W1 (.slice (some ⟨W.heap.size, 0, none⟩) 0 (Maps.size Em)) [] := ⟨rfl, .inr ⟨W.heap.size, Maps.size Em, _, rfl, Nat.le_refl _, by rw [← hW1]; exact World.alloc_heap_new W _, Nat.zero_le _, by unfold maxLen; omega, size_madeCells _ _, by simp [i64s]⟩⟩
 have e1' : W1.ownsMap Tryz.prog 3 ptrElem me ce Em := by
  obtain ⟨es, clock, q1, q2⟩ := e1
  exact ⟨es, clock, (hb1.block me hmlt).trans q1, q2⟩
 have d1 : W1.cell? ⟨b, 1, none⟩ = some (.map (some me)) := (hb1.cell (p := ⟨b, 1, none⟩) hblt).trans c1
 rw [hW1] at hmk
 have HS1 := hide hs1
 have HB1 := hide hb1
 have HOW := hide how1
 obtain ⟨i0, hi, hz0, hz1, hz2⟩ := info_parts Tryz.infoI
 have hml : me < W.heap.size := hmlt
 clear h e1 e2 hsz hcn hlow c0 c2 hid hent hpl hsrt hids hW1 hb1 hs1 how1 hblt hmlt
 go_enter Tryz.func15, Tryz.ntmps15
 go_wp2_with (first | (at_range; refine wpList_range_own _ rfl _ 54 rfl 3 67 Tryz.keyed3 Tryz.underlying54 _ me ce Em rfl e1' ?_; intro w0 hrg0 hg0 hs0) | go_in)
 go_frame
 have hstart : AllAt W me W1.heap.size ce Em E (.slice (some ⟨W.heap.size, 0, none⟩) 0 (Maps.size Em)) w0 := by
  refine ⟨_, _, [], hrg0, owns_below (unhide HOW) (fun g hg => hg0.block g (owns_lt (unhide HOW) hg).2 (by simp)), fun g hg => ?_, by simp, ⟨hg0.os.trans (unhide HB1).os, hg0.tape.trans (unhide HB1).tape, hg0.output.trans (unhide HB1).output, Nat.le_trans (unhide HB1).size hg0.size, fun k hk => (hg0.block k (by have := unhide HS1; omega) (by simp)).trans ((unhide HB1).block k hk)⟩, hrg0.lt, List.Pairwise.nil, (fun x hx => by cases hx), fun x hx => .inl ((unhide HID) x hx)⟩
  simp [Value.ownBlock] at hg
  have := unhide HS1
  omega
 have hr1 : W.heap.size < W1.heap.size := by have := unhide HS1; omega
 clear hrg0 hg0 hs0 HOW HB1 HS1 HID hmk hlenm d1 e1'
 go_loopw [3] (fun v wr => AllAt W me W1.heap.size ce Em E v wr) (fun _ wr => wr.rangeLeft me W1.heap.size)
 case atStart => exact hstart
 case round =>
  obtain ⟨left, cnt, l, hrg, how, hne, hlc, hbr, hrl, hpw, hin, hout⟩ := hrel
  have HR := hide (And.intro how (And.intro hne (And.intro hpw (And.intro hin hout))))
  have hll : l.length ≤ 1048576 := by omega
  clear how hne hpw hin hout hstart
  go_wp2_with (first | (at_next; refine next_ptr _ rfl _ rfl me W1.heap.size ce Em left cnt rfl hrg ?_ ?_) | go_in)
  ·intro hc0 hl0
   obtain ⟨how, hne, hpw, hin, hout⟩ := unhide HR
   have hmem : ∀ x, x ∈ l ↔ x ∈ E := fun x => ⟨fun hx => (hin x hx).1, fun hx => (hout x hx).resolve_left (by rw [hl0]; simp)⟩
   have hsp := srt_pls (unhide HSRT) hmem (hpw.imp fun h e => h (by unfold idE; rw [e]))
   have hso := sort_own u3 (l.map En.pl) wr how (by simp; omega)
   rw [hsp] at hso
   have hEl : E.length ≤ 1048576 := by
    have h1 : (srtI (l.map En.pl)).length = (E.map En.pl).length := by rw [hsp]
    rw [srtI_len] at h1
    simp at h1
    omega
   obtain ⟨g0, cp0, hv3⟩ : ∃ a cp, u3 = .slice a l.length cp := by
    obtain ⟨a, cp, e⟩ := row_slice how
    exact ⟨a, cp, by simpa using e⟩
   have HLEN : Hid (l.length = E.length) := hide <| by
    have h1 : (srtI (l.map En.pl)).length = (E.map En.pl).length := by rw [hsp]
    rw [srtI_len] at h1
    simpa using h1
   have HLO : Hid (∀ k, u3.ownBlock = some k → W.heap.size ≤ k) := fun k hk => (owns_lt how hk).1
   have HSO := hide hso
   have HBR := hide hbr
   clear how hne hpw hin hout HR hmem hsp hrg hl0 hso hbr
   have hle : l.length = E.length := HLEN.out
   rw [hle] at hv3
   subst hv3
   clear hle hll hlc HLEN
   go_wp2_with fail
   refine (unhide HSO).mono ?_
   clear HSO
   rintro e W5 ⟨rfl, how5, g5⟩
   have hb5 : Below W.heap.size W W5 := (unhide HBR).trans ⟨g5.os, g5.tape, g5.output, g5.size, fun k hk => g5.block k (by have := (unhide HBR).size; omega) (fun e => by have := HLO.out k e; omega)⟩
   have HO5 := hide how5
   have HB5 := hide hb5
   clear how5 g5 hb5 HBR HLO
   go_wp2_with fail
   go_loopw [34] (fun i wr => ∃ j : Nat, j ≤ E.length ∧ i = .int .i64 j ∧ Below W.heap.size W wr ∧ OwnI W.heap.size wr (.slice g0 E.length cp0) ((E.take j).map idE ++ (E.drop j).map En.pl)) (fun i _ => E.length - (intOf i).toNat)
   case atStart => exact ⟨0, Nat.zero_le _, rfl, unhide HB5, by simpa using unhide HO5⟩
   case round =>
    obtain ⟨j, hj, rfl, hbq, howr⟩ := hrel
    by_cases hlt2 : j < E.length
    ·have hj1 : (j : Int) < E.length := by omega
     have hns : ((E.take j).map idE ++ (E.drop j).map En.pl).length = E.length := by simp; omega
     obtain ⟨g, hg0⟩ : ∃ g, g0 = some ⟨g, 0, none⟩ := by
      rcases howr.2 with ⟨h1, h2⟩ | ⟨g, cap, cur, h1, _⟩
      ·omega
      ·simp at h1; exact ⟨g, h1.1⟩
     subst hg0
     have hx : E[j]? = some (E[j]'hlt2) := List.getElem?_eq_getElem hlt2
     obtain ⟨x, hxe⟩ : ∃ x, E[j]'hlt2 = x := ⟨_, rfl⟩
     rw [hxe] at hx
     have hpx := (unhide HPL) x (List.mem_of_getElem? hx)
     obtain ⟨a', cap', ea, hN⟩ := howr.isN (by omega)
     have hcell : wr.cell? ⟨g, j, none⟩ = some (.int .i64 x.pl) := by
      rcases hN.2.2 with h0 | ⟨b', off', e', _, hk⟩
      ·rw [h0] at hns; simp at hns; omega
      ·simp at ea
       rw [← ea.1] at e'
       simp at e'
       have := hk j x.pl (by rw [List.getElem?_append_right (by simp; omega)]; simp [hlt2, hxe, Nat.min_eq_left hj])
       rw [← e'.1, ← e'.2] at this
       simpa using this
     have hfz : wr.frozen? ⟨g, j, none⟩ = false := by
      rcases howr.2 with ⟨h1, h2⟩ | ⟨g', cap, cur, h1, _, hb, _⟩
      ·omega
      ·simp at h1
       rw [h1.1]
       simp [World.frozen?, hb]
     have hgW : W.heap.size ≤ g := by
      rcases howr.2 with ⟨h1, h2⟩ | ⟨g', cap, cur, h1, h2, _⟩
      ·omega
      ·simp at h1
       omega
     have hset := ownI_set (by rw [hns]; exact howr) (show j < _ by rw [hns]; exact hlt2) (idE x)
     rw [hns] at hset
     have heq : ((E.take j).map idE ++ (E.drop j).map En.pl).set j (idE x) = (E.take (j + 1)).map idE ++ (E.drop (j + 1)).map En.pl := by
      rw [List.set_append_right _ _ (by simp; omega)]
      rw [List.take_add_one, hx, List.drop_eq_getElem_cons hlt2, hxe]
      simp [Nat.min_eq_left hj]
     rw [heq] at hset
     have hbs : Below W.heap.size W (wr.setCell ⟨g, j, none⟩ (.int .i64 (idE x))) := hbq.trans ⟨rfl, rfl, rfl, by simp, fun k hk => Below.heap_setCell _ _ _ k (show k ≠ g by omega)⟩
     have hia := idAt_any x.pl wr hpx.2.2.1 hpx.2.2.2
     have HF := hide (And.intro hbs hset)
     clear ea howr hN hset heq hbs hx hxe hns hbq hpx
     go_wp2_with fail
     refine hia.mono ?_
     clear hia
     rintro e W6 ⟨rfl, rfl⟩
     go_wp2_with fail
     go_roundw
     case rel => exact ⟨j + 1, by omega, by go_num, (unhide HF).1, (unhide HF).2⟩
     case measure => simp [intOf]; omega
    ·obtain rfl : j = E.length := by omega
     have hj1 : ¬ (E.length : Int) < E.length := by omega
     rw [List.take_length, List.drop_length, List.map_nil, List.append_nil] at howr
     have HF := hide (And.intro howr hbq)
     clear howr hbq
     go_wp2_with fail
     exact bodyPost_ret (v := .slice g0 E.length cp0) (by simp [results, Tryz.results15, go_sem]) rfl ⟨_, rfl, (unhide HF).1, (unhide HF).2⟩
  ·intro N p w1 cnt1 hlx hat hrg1 hlt hg1 hs1 hen
   obtain ⟨x, hx, rfl, rfl⟩ := (unhide HENT) N p hat (has_true_of_atKey hat)
   obtain ⟨how, hne, hpw, hin, hout⟩ := unhide HR
   have hb1 : Below W.heap.size W w1 := hbr.trans ⟨hg1.os, hg1.tape, hg1.output, hg1.size, fun k hk => hg1.block k (by have := hbr.size; omega) (by simp; omega)⟩
   have hpx := (unhide HPL) x hx
   have hpc : w1.cell? ⟨x.eb, 0, none⟩ = some (.int .i64 x.pl) := (hb1.cell (p := ⟨x.eb, 0, none⟩) hpx.2.1).trans hpx.1
   have how1 : OwnI W.heap.size w1 u3 (l.map En.pl) := owns_below how (fun g hg => hg1.block g (owns_lt how hg).2 (by have := hne g hg; simp; omega))
   have hown2 : (w1.alloc (.cells #[.int .i64 x.pl] 3)).ownsRow W.heap.size 3 1 u3 (l.map En.pl).length (i64s (l.map En.pl)) := owns_below how1 (fun g hg => Below.heap_alloc _ _ _ (owns_lt how1 hg).2)
   have hln : (l.map En.pl).length ≤ 1048576 := by simp; omega
   have HQ := hide (And.intro how1 (And.intro hne (And.intro hpw (And.intro hin (And.intro hout hlx)))))
   have HX := hide hx
   have HRG := hide hrg1
   have hw1 : W.heap.size ≤ w1.heap.size := hb1.size
   have HS1 := hide hs1
   have HRG0 := hide hrg
   clear how hne hpw hin hout HR how1 hpx hg1 hat hrg hrg1 hlx hx hs1
   go_wp2_with (at_builtin; go_must (refine wpList_append_own_at _ rfl _ _ 44 rfl W.heap.size 3 i0 _ 1 8 Tryz.underlying44 hi hz0 hz1 hz2 rfl (by decide) u3 (l.map En.pl).length (i64s (l.map En.pl)) rfl hown2 ⟨w1.heap.size, 0, none⟩ 1 1 [.int .i64 x.pl] rfl rfl one_newI one_oneI (by unfold maxLen; omega) (by omega) (by simp; omega) ?_; intro v' w9 hown' hgrow hnil hbk))
   have hfin : AllAt W me W1.heap.size ce Em E v' w9 ∧ w9.rangeLeft me W1.heap.size < wr.rangeLeft me W1.heap.size := by
    obtain ⟨how1, hne, hpw, hin, hout, hlx⟩ := unhide HQ
    have hs1 := unhide HS1
    have hgs := hgrow.size
    simp at hgs
    have hme : some me ≠ u3.ownBlock := fun e => by have := (owns_lt how1 e.symm).1; have := hml; omega
    have hrne : some W1.heap.size ≠ u3.ownBlock := fun e => hne _ e.symm rfl
    have hrg9 := ((unhide HRG).alloc (.cells #[.int .i64 x.pl] 3)).kept hgrow hme hrne
    refine ⟨⟨_, cnt1, l ++ [x], hrg9, by unfold OwnI; simpa [i64s] using hown', fun g hg => ?_, by simp; omega, ?_, by omega, ?_, fun y hy => ?_, fun y hy => ?_⟩, ?_⟩
    ·rcases hbk with h | h
     ·rw [h] at hg; exact hne g hg
     ·rw [h] at hg
      simp at hg
      omega
    ·exact (hb1.alloc hb1.size _).grown hgrow (by simp; omega) (fun g hg => (owns_lt how1 hg).1)
    ·rw [List.pairwise_append]
     refine ⟨hpw, List.pairwise_singleton _ _, fun a ha c hc e => ?_⟩
     rw [List.mem_singleton] at hc
     subst hc
     have := (hin a ha).2
     rw [e, hlx] at this
     cases this
    ·rcases List.mem_append.1 hy with hy | hy
     ·exact ⟨(hin y hy).1, by simp [(hin y hy).2]⟩
     ·rw [List.mem_singleton] at hy
      subst hy
      exact ⟨unhide HX, by simp [sameKey_int]⟩
    ·rcases hout y hy with h | h
     ·by_cases e : idE y = idE x
      ·right
       rw [(unhide HIDS) y x hy (unhide HX) e]
       simp
      ·left
       simp [h, sameKey_int, e]
     ·exact .inr (List.mem_append_left _ h)
    ·rw [hrg9.left_eq, (unhide HRG0).left_eq]
     exact hlt
   have HFIN := hide hfin
   clear hfin hown' hgrow hnil hbk hown2 hpc HQ HRG hen
   go_wp2_with fail
   go_roundw
   case rel => exact (unhide HFIN).1
   case measure => exact (unhide HFIN).2
/- The contract of hornkeep.spoilt at a row of int: but for the row's own block all is as it was. -/
set_option maxHeartbeats 1000000
set_option maxRecDepth 100000
def RowK (T : TypeId) (k : Nat) (W : World) (b cap : Nat) : Prop := ∃ arr : Array Value, W.heap[b]? = some (.cells arr T (0, 0)) ∧ arr.size = cap * k
theorem RowK.lt {T : TypeId} {k : Nat} {W : World} {b cap : Nat} (h : RowK T k W b cap) : b < W.heap.size := by obtain ⟨arr, h, _⟩ := h; exact (Array.getElem?_eq_some_iff.1 h).1
theorem RowK.cell {T : TypeId} {k : Nat} {W : World} {b cap : Nat} (h : RowK T k W b cap) {o : Nat} (ho : o < cap * k) : (∃ v, W.cell? ⟨b, o, none⟩ = some v) ∧ W.frozen? ⟨b, o, none⟩ = false := by
 obtain ⟨arr, h, hs⟩ := h
 refine ⟨⟨arr[o]'(by omega), ?_⟩, ?_⟩
 ·simp [World.cell?, h]
 ·simp [World.frozen?, h]
theorem RowK.kept {T : TypeId} {k : Nat} {W W' : World} {b cap : Nat} (h : RowK T k W b cap) (hb : W'.heap[b]? = W.heap[b]?) : RowK T k W' b cap := by
 obtain ⟨arr, h, hs⟩ := h
 exact ⟨arr, hb.trans h, hs⟩
theorem RowK.setCell {T : TypeId} {k : Nat} {W : World} {b cap : Nat} (h : RowK T k W b cap) (o : Nat) (v : Value) : RowK T k (W.setCell ⟨b, o, none⟩ v) b cap := by
 obtain ⟨arr, h, hs⟩ := h
 obtain ⟨hlt, hk⟩ := Array.getElem?_eq_some_iff.1 h
 refine ⟨arr.setIfInBounds o v, ?_, by simpa using hs⟩
 show (W.heap.modify b _)[b]? = _
 rw [Array.getElem?_eq_getElem (by rw [Array.size_modify]; exact hlt), Array.getElem_modify_self, hk]
 rfl
theorem RowK.owns {T : TypeId} {k : Nat} {W : World} {b cap len : Nat} (h : RowK T k W b cap) (hlc : len ≤ cap) (hcm : cap ≤ 9223372036854775807) : ∃ xs, W.ownsRow 0 T k (.slice (some ⟨b, 0, none⟩) len cap) len xs := by
 obtain ⟨arr, h, hs⟩ := h
 have hle : len * k ≤ cap * k := Nat.mul_le_mul_right _ hlc
 exact ⟨arr.toList.take (len * k), by simp; omega, .inr ⟨b, cap, arr, rfl, Nat.zero_le _, h, hlc, by unfold maxLen; omega, hs, rfl⟩⟩
structure OnlyB (w : World) (b : Nat) (W : World) : Prop where
 os : W.os = w.os
 tape : W.tape = w.tape
 output : W.output = w.output
 size : w.heap.size ≤ W.heap.size
 other : ∀ k, k < w.heap.size → k ≠ b → W.heap[k]? = w.heap[k]?
theorem OnlyB.refl (w : World) (b : Nat) : OnlyB w b w := ⟨rfl, rfl, rfl, Nat.le_refl _, fun _ _ _ => rfl⟩
theorem OnlyB.setCell {w W : World} {b : Nat} (h : OnlyB w b W) (o : Nat) (v : Value) : OnlyB w b (W.setCell ⟨b, o, none⟩ v) :=
 ⟨h.os, h.tape, h.output, by simpa using h.size, fun k hk hn => (Below.heap_setCell _ _ _ _ hn).trans (h.other k hk hn)⟩
theorem OnlyB.then_below {w W V : World} {b : Nat} (h : OnlyB w b W) (k : Below W.heap.size W V) : OnlyB w b V :=
 ⟨k.os.trans h.os, k.tape.trans h.tape, k.output.trans h.output, Nat.le_trans h.size k.size, fun i hi hn => (k.block i (Nat.lt_of_lt_of_le hi h.size)).trans (h.other i hi hn)⟩
theorem OnlyB.grown {w W V : World} {b : Nat} (h : OnlyB w b W) (k : W.grownBy V (some b)) : OnlyB w b V :=
 ⟨k.os.trans h.os, k.tape.trans h.tape, k.output.trans h.output, Nat.le_trans h.size k.size, fun i hi hn => (k.block i (Nat.lt_of_lt_of_le hi h.size) (by simpa using hn)).trans (h.other i hi hn)⟩
theorem thr_new (W : World) : ∀ j u, ([.int .i64 (-7), .int .i64 (-7), .int .i64 (-7)] : List Value)[j]? = some u → (W.alloc (.cells #[.int .i64 (-7), .int .i64 (-7), .int .i64 (-7)] 3)).cell? ((⟨W.heap.size, 0, none⟩ : Addr).add j) = some u := by
 intro j u hj
 rw [addr_add, Nat.zero_add]
 have hl := (List.getElem?_eq_some_iff.1 hj).1
 simp only [List.length_cons, List.length_nil] at hl
 have : j = 0 ∨ j = 1 ∨ j = 2 := by omega
 rcases this with rfl | rfl | rfl <;> (simp at hj; subst hj; simp)
theorem thr_one : ∀ u ∈ ([.int .i64 (-7), .int .i64 (-7), .int .i64 (-7)] : List Value), u.oneCell' = true := by
 intro u hu
 simp at hu
 subst hu
 rfl
theorem Tryz.info_int : (Tryz.prog.info? 3).map (fun i => (i.zero, i.size, i.bytes)) = some (some (.int .i64 0), 1, 8) := by kernel_rfl
theorem spoiltN_row (b len cap : Nat) (w : World) (hr : RowK 3 1 w b cap) (hlc : len ≤ cap) (hcap : cap ≤ 9223372036854775807) (hlen : len ≤ 4194304) :
  Calls Tryz.prog 14 #[.slice (some ⟨b, 0, none⟩) len cap, .int .i64 (-7)] w fun e W' => e = .returned (.tuple #[]) ∧ OnlyB w b W' := by
 obtain ⟨i0, hi, hz0, hz1, hz2⟩ := info_parts Tryz.info_int
 have hblt := hr.lt
 have HI := hide hi
 have HZ0 := hide hz0
 have HZ1 := hide hz1
 have HZ2 := hide hz2
 have HR := hide hr
 clear hr hi hz0 hz1 hz2
 go_enter Tryz.func14, Tryz.ntmps14
 go_wp2_with fail
 go_loopw [12] (fun i wr => ∃ j : Nat, j ≤ cap ∧ i = .int .i64 j ∧ OnlyB w b wr ∧ RowK 3 1 wr b cap) (fun i _ => cap - (intOf i).toNat)
 case atStart => exact ⟨0, Nat.zero_le _, rfl, OnlyB.refl _ _, unhide HR⟩
 case round =>
  obtain ⟨j, hj, rfl, ho, hr⟩ := hrel
  by_cases hlt : j < cap
  ·have hn1 := ho.setCell j (.int .i64 (-7))
   have hn2 := hr.setCell j (.int .i64 (-7))
   obtain ⟨⟨_, z0⟩, y0⟩ := hr.cell (o := j) (by omega)
   have HN1 := hide hn1
   have HN2 := hide hn2
   have hj1 : (j : Int) < cap := by omega
   clear hn1 hn2 hr ho
   go_wp2_with fail
   go_roundw
   case rel => exact ⟨j + 1, by omega, by go_num, unhide HN1, unhide HN2⟩
   case measure => simp [intOf]; omega
  ·obtain rfl : j = cap := by omega
   have hj1 : ¬ (j : Int) < j := by omega
   have hbA : Below wr.heap.size wr (wr.alloc (.cells #[.int .i64 (-7), .int .i64 (-7), .int .i64 (-7)] 3)) := (Below.refl _ wr).alloc (Nat.le_refl _) _
   obtain ⟨xs, hown⟩ := (hr.kept (hbA.block b hr.lt)).owns (len := len) hlc hcap
   have HOWN := hide hown
   have HOB := hide (ho.then_below hbA)
   clear hown hbA hr ho
   go_wp2_with (at_builtin; go_must (refine wpList_append_own_at _ rfl _ _ 44 rfl 0 3 i0 _ 1 8 Tryz.underlying44 (unhide HI) (unhide HZ0) (unhide HZ1) (unhide HZ2) rfl (by decide) (.slice (some ⟨b, 0, none⟩) len j) len xs rfl (unhide HOWN) ⟨wr.heap.size, 0, none⟩ 3 3 [.int .i64 (-7), .int .i64 (-7), .int .i64 (-7)] rfl rfl (thr_new wr) thr_one (by unfold maxLen; omega) (by omega) (Nat.zero_le _) ?_; intro v' W' hown' hgrow hnil' hbk'))
   exact bodyPost_end (v := .tuple #[]) (by simp [results, Tryz.results14, go_sem]) rfl ⟨rfl, (unhide HOB).grown hgrow⟩
theorem grown_none {w V : World} (k : w.grownBy V none) : Below w.heap.size w V := ⟨k.os, k.tape, k.output, k.size, fun i hi => k.block i hi (by simp)⟩
theorem spoiltN_nil (w : World) :
  Calls Tryz.prog 14 #[.slice none 0 0, .int .i64 (-7)] w fun e W' => e = .returned (.tuple #[]) ∧ Below w.heap.size w W' := by
 obtain ⟨i0, hi, hz0, hz1, hz2⟩ := info_parts Tryz.info_int
 have HI := hide hi
 have HZ0 := hide hz0
 have HZ1 := hide hz1
 have HZ2 := hide hz2
 clear hi hz0 hz1 hz2
 go_enter Tryz.func14, Tryz.ntmps14
 go_wp2_with fail
 go_loopw [12] (fun i wr => i = .int .i64 0 ∧ wr = w) (fun i _ => 0)
 case atStart => exact ⟨rfl, rfl⟩
 case round =>
  obtain ⟨rfl, rfl⟩ := hrel
  have hbA : Below wr.heap.size wr (wr.alloc (.cells #[.int .i64 (-7), .int .i64 (-7), .int .i64 (-7)] 3)) := (Below.refl _ wr).alloc (Nat.le_refl _) _
  have hown : (wr.alloc (.cells #[.int .i64 (-7), .int .i64 (-7), .int .i64 (-7)] 3)).ownsRow 0 3 1 (.slice none 0 0) 0 [] := ⟨rfl, .inl ⟨rfl, rfl⟩⟩
  have HOWN := hide hown
  have HOB := hide hbA
  clear hown hbA
  go_wp2_with (at_builtin; go_must (refine wpList_append_own_at _ rfl _ _ 44 rfl 0 3 i0 _ 1 8 Tryz.underlying44 (unhide HI) (unhide HZ0) (unhide HZ1) (unhide HZ2) rfl (by decide) (.slice none 0 0) 0 [] rfl (unhide HOWN) ⟨wr.heap.size, 0, none⟩ 3 3 [.int .i64 (-7), .int .i64 (-7), .int .i64 (-7)] rfl rfl (thr_new wr) thr_one (by unfold maxLen; omega) (by omega) (Nat.zero_le _) ?_; intro v' W' hown' hgrow hnil' hbk'))
  exact bodyPost_end (v := .tuple #[]) (by simp [results, Tryz.results14, go_sem]) rfl ⟨rfl, (unhide HOB).trans ((grown_none hgrow).mono (unhide HOB).size)⟩
theorem spoiltN_own {lo : Nat} {W : World} {v : Value} {ns : List Int} (h : OwnI lo W v ns) (hl : ns.length ≤ 4194304) (hlo : lo ≤ W.heap.size) :
  Calls Tryz.prog 14 #[v, .int .i64 (-7)] W fun e W' => e = .returned (.tuple #[]) ∧ Below lo W W' := by
 obtain ⟨hxl, ⟨rfl, hn⟩ | ⟨g, cap, arr, rfl, hg0, hg, hlc, hcm, hsz, hxs⟩⟩ := h
 ·exact (spoiltN_nil W).mono fun e W' hk => ⟨hk.1, hk.2.mono hlo⟩
 ·refine (spoiltN_row g ns.length cap W ⟨arr, hg, hsz⟩ hlc (by unfold maxLen at hcm; omega) hl).mono fun e W' hk => ⟨hk.1, ?_⟩
  have h2 := hk.2
  exact ⟨h2.os, h2.tape, h2.output, h2.size, fun i hi => h2.other i (Nat.lt_of_lt_of_le hi hlo) (by omega)⟩
theorem StS.all {n₀ : Nat} {W₁ V : World} {b u : Nat} {lb lu : Int} {Eb Eu : List En} {Sp : Nat → Prop} (h : StS n₀ W₁ b u lb lu Eb Eu Sp V) (hbig : lb ≤ 1048576) :
  Calls Tryz.prog 15 #[.pointer (some ⟨b, 0, none⟩)] V fun e V' => ∃ v ns, e = .returned v ∧ OwnI V.heap.size V' v ns ∧ ns.length ≤ 4194304 ∧ Below V.heap.size V V' := by
 obtain ⟨M, Ob, Ou, h1, h2, h3, h4, h5⟩ := h
 obtain ⟨me, mf, ce, cf, ge, gf, F, hB, hO⟩ := h4.fst
 refine (all_any hB hbig).mono fun e V' hk => ?_
 obtain ⟨v, rfl, q, g⟩ := hk
 exact ⟨v, _, rfl, q, by have := hB.cnt.2.2; rw [List.length_map]; omega, g⟩
theorem StV.all {n₀ : Nat} {W₁ V : World} {b vb wb : Nat} {laid : Int} {E A1 A2 B1 B2 : List En} {lv lw : Int} {Sp : Nat → Prop} (h : StV n₀ W₁ b vb wb laid E A1 A2 B1 B2 lv lw Sp V) (hbig : laid ≤ 1048576) :
  Calls Tryz.prog 15 #[.pointer (some ⟨b, 0, none⟩)] V fun e V' => ∃ v ns, e = .returned v ∧ OwnI V.heap.size V' v ns ∧ ns.length ≤ 4194304 ∧ Below V.heap.size V V' := by
 obtain ⟨M, O, h1, h2, h3, h4, h5, h6⟩ := h
 obtain ⟨me, mf, ce, cf, ge, gf, F, hB, hO⟩ := h5
 refine (all_any hB hbig).mono fun e V' hk => ?_
 obtain ⟨v, rfl, q, g⟩ := hk
 exact ⟨v, _, rfl, q, by have := hB.cnt.2.2; rw [List.length_map]; omega, g⟩
end Go.Proofs.YtlbobmebbllifaaGreat
