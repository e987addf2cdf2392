import Derived.Test.YtlbobmebbllifaaGreatSpds
import Derived.Test.YtlbobmebbllifaaGreatTs
import Derived.Test.YtlbobmebbllifaaGreatGs
import Derived.Test.YtlbobmebbllifaaGreatBbBs
/- The contract of hornkeep.own: a copy in new memory, with three marks behind each row. -/
namespace Go.Proofs.YtlbobmebbllifaaGreat
open Go.RowKit Go.Shelf Go.Maps
theorem codes_len {n : Nat} (kids : List (Tm n)) : kids.length ≤ (kids.flatMap code).length := by
 induction kids with
 | nil => simp
 | cons u r ih =>
  have := code_pos u
  simp only [List.length_cons, List.flatMap_cons, List.length_append]
  omega
theorem code_le {n : Nat} {kids : List (Tm n)} {u : Tm n} (h : u ∈ kids) : (code u).length ≤ (kids.flatMap code).length := by
 induction kids with
 | nil => cases h
 | cons v r ih =>
  simp only [List.flatMap_cons, List.length_append]
  rcases List.mem_cons.1 h with rfl | h
  ·omega
  ·have := ih h; omega
theorem rows_one (l : List TV) : ∀ u ∈ l.flatMap TV.row, u.oneCell' = true := fun u hu => by
 obtain ⟨x, _, hx⟩ := List.mem_flatMap.1 hu
 exact row_one u hx
set_option maxRecDepth 100000 in
set_option maxHeartbeats 2000000 in
theorem own_step {n : Nat}
  (ih : ∀ (u : Tm n) (W : World), IsT W.heap.size W u → (∀ x ∈ code u, x.2.2.2 ≤ 4194304) → Calls Tryz.prog 6 #[u.tv.val] W fun e W' => ∃ t' : Tm n, e = .returned t'.tv.val ∧ Below W.heap.size W W' ∧ Owned W.heap.size W' t' ∧ code t' = code u)
  (k N : Int) (s : ByteArray) (a : Option Addr) (len cap : Nat) (kids : List (Tm n)) (W : World) (hs : s.size ≤ 9223372036854775807) (hlen : len = kids.length) (hmax : len ≤ 4194304) (hbig : ∀ u ∈ kids, ∀ x ∈ code u, x.2.2.2 ≤ 4194304) (hlim : n + 1 ≤ 2199023255552)
  (hkids : kids = [] ∨ ∃ b off, a = some ⟨b, off, none⟩ ∧ b < W.heap.size ∧ ∀ j u, kids[j]? = some u → cellsAt W b (off + j * 4) u.tv ∧ IsT W.heap.size W u) :
  Calls Tryz.prog 6 #[.agg #[.int .i64 k, .int .i64 N, .string s, .slice a len cap]] W fun e W' => ∃ t' : Tm (n + 1), e = .returned t'.tv.val ∧ Below W.heap.size W W' ∧ Owned W.heap.size W' t' ∧ code t' = (k, N, s.toList, len) :: kids.flatMap code := by
 have hl1 : len ≤ kids.length := by omega
 have hl2 : kids.length ≤ len := by omega
 have HCU : Hid (∀ u ∈ kids, ∀ x ∈ code u, x.2.2.2 ≤ 4194304) := hbig
 clear hlen hbig
 have hH := Head.new W ⟨k, N, s, a, len, cap⟩
 simp only at hH
 have HI := hide ih
 clear ih
 obtain ⟨i0, hi, hz0, hz1, hz2⟩ := info_parts Tryz.info28
 go_enter Tryz.func6, Tryz.ntmps6
 go_wp2_with fail
 obtain ⟨W2, hW2⟩ : ∃ W2, (W.alloc (.cells #[.int .i64 k, .int .i64 N, .string s, .slice a len cap] 24)).alloc (.cells #[.int .i64 0, .int .i64 0, .string ⟨#[]⟩, .slice none 0 0] 24) = W2 := ⟨_, rfl⟩
 have hsz2 : ((W.alloc (.cells #[.int .i64 k, .int .i64 N, .string s, .slice a len cap] 24)).alloc (.cells #[.int .i64 0, .int .i64 0, .string ⟨#[]⟩, .slice none 0 0] 24)).heap.size = W.heap.size + 2 := by simp
 rw [hW2] at hH hsz2 ⊢
 clear hW2
 have HH := hide hH
 have HSZ := hide hsz2
 clear hH hsz2
 go_loopw [3, 8] (fun av i wr => ∃ (j : Nat) (l : List TV) (ks : List (Tm n)), j ≤ len ∧ i = .int .i64 j ∧ l.length = j ∧ Below (W.heap.size + 2) W2 wr ∧ MadeR (W.heap.size + 2) (W.heap.size + 2) wr av l ks ∧ ks.flatMap code = (kids.take j).flatMap code ∧ (j = 0 → av = .slice none 0 0)) (fun _ i _ => len - (intOf i).toNat)
 case atStart => exact ⟨0, [], [], Nat.zero_le _, rfl, rfl, Below.refl _ _, MadeR.zero _ _ _, by simp, fun _ => rfl⟩
 case round =>
  obtain ⟨j, l, ks, hj, rfl, hll, hb, hm, hcd, hn0⟩ := hrel
  have hb' : Below W2.heap.size W2 wr := by rw [unhide HSZ]; exact hb
  have hH := (unhide HH).next hb'
  have x2 := hH.ba.c2
  have x3 := hH.ba.c3
  have x0 := hH.ba.c0
  have x1 := hH.ba.c1
  simp only at x0 x1 x2 x3
  have HHr := hide hH
  have HM := hide hm
  have HLL := hide hll
  have HCD := hide hcd
  have HN0 := hide hn0
  clear hH hm hll hcd hn0
  by_cases hlt : j < len
  ·obtain ⟨u, b, off, hu, rfl, ⟨c0, c1, c2, c3⟩, hT, hbk⟩ := kid_at hkids (unhide HHr).below hlt hl1
   have ihu := (unhide HI) u wr hT (HCU.out u (List.mem_of_getElem? hu))
   have hcode := code_take kids j u hu
   have HC := hide hcode
   clear hT hkids hu hcode
   simp only [TV.val] at ihu
   have hj1 : (j : Int) < len := by omega
   go_wp2_with fail
   refine ihu.mono ?_
   clear ihu
   rintro e W5 ⟨u5, rfl, hb5, hx, hcx⟩
   dsimp only [TV.val]
   clear x0 x1 x2 x3 c0 c1 c2 c3
   have hown5 : (W5.alloc (.cells #[.int .i64 u5.tv.k, .int .i64 u5.tv.N, .string u5.tv.s, .slice u5.tv.a u5.tv.len u5.tv.cap] 24)).ownsRow (W.heap.size + 2) 24 4 u3 l.length (l.flatMap TV.row) :=
    owns_below (unhide HM).owns (fun g hg => by
     have hlt := (owns_lt (unhide HM).owns hg).2
     exact (Below.heap_alloc _ _ _ (Nat.lt_of_lt_of_le hlt hb5.size)).trans (hb5.block g hlt))
   go_wp2_with (at_builtin; go_must (refine wpList_append_own_at _ rfl _ _ 22 rfl (W.heap.size + 2) 24 i0 _ 4 56 Tryz.underlying22 hi hz0 hz1 hz2 rfl (by decide) u3 l.length (l.flatMap TV.row) rfl hown5 ⟨W5.heap.size, 0, none⟩ 1 1 u5.tv.row rfl rfl new_cells row_one (by have := unhide HLL; unfold maxLen; omega) (by have := unhide HLL; omega) (by have := hb5.size; have := hb'.size; have := unhide HSZ; simp; omega) ?_; intro v1 w1 hown' hgrow hnil hbk))
   have hwr : W.heap.size + 2 ≤ wr.heap.size := by have := hb'.size; have := unhide HSZ; omega
   have hgl : ∀ g, u3.ownBlock = some g → W.heap.size + 2 ≤ g ∧ g < wr.heap.size := fun g hg => owns_lt (unhide HM).owns hg
   have hmade := (unhide HM).next hb5 hx hwr hown' hgrow (by simpa using hbk)
   have hbel : Below (W.heap.size + 2) W2 w1 := ((hb.trans (hb5.mono hwr)).alloc (Nat.le_trans hwr hb5.size) _).grown hgrow (by have := hb5.size; simp; omega) (fun g hg => (hgl g hg).1)
   exact ⟨⟨j + 1, l ++ [u5.tv], ks ++ [u5], by omega, by go_num, by simp [unhide HLL], hbel, hmade, by rw [unhide HC, List.flatMap_append, unhide HCD]; simp [hcx], fun h => by omega⟩, by simp [intOf]; omega⟩
  ·have hjl : j = len := by omega
   have ht : kids.take j = kids := List.take_of_length_le (by omega)
   have hcd := unhide HCD
   rw [ht] at hcd
   subst hjl
   have hm := unhide HM
   have hll := unhide HLL
   have hlt' : ¬ (j : Int) < (j : Int) := by omega
   by_cases h0 : j = 0
   ·obtain rfl := (unhide HN0) h0
    subst h0
    have hk0 : kids = [] := List.length_eq_zero_iff.1 (by omega)
    subst hk0
    obtain ⟨⟨z0, z1, z2, z3⟩, y0, y1, y2, y3⟩ := zbox_kept (unhide HHr).bz
    have f3 : wr.frozen? ⟨W.heap.size, 3, none⟩ = false := by simp [World.frozen?, show wr.heap[W.heap.size]? = _ from (unhide HHr).ba]
    have HF : Hid (Below W.heap.size W (set4 (wr.setCell ⟨W.heap.size, 3, none⟩ (.slice none 0 0)) (W.heap.size + 1) 0 ⟨k, N, s, none, 0, 0⟩) ∧ Owned W.heap.size (set4 (wr.setCell ⟨W.heap.size, 3, none⟩ (.slice none 0 0)) (W.heap.size + 1) 0 ⟨k, N, s, none, 0, 0⟩) (n := n + 1) ((⟨k, N, s, none, 0, 0⟩, []) : TV × List (Tm n))) :=
     ⟨set4_below ((unhide HHr).below.setCell (p := ⟨W.heap.size, 3, none⟩) (Nat.le_refl _) _) (by omega) 0 _, owned_leaf hs hlim⟩
    clear hm hll hcd ht hkids hb hb'
    go_wp2_with fail
    refine bodyPost_ret (v := (⟨k, N, s, none, 0, 0⟩ : TV).val) ?_ rfl ⟨((⟨k, N, s, none, 0, 0⟩, []) : TV × List (Tm n)), rfl, HF.out.1, HF.out.2, by rw [code_succ]; rfl⟩
    simp [results, Tryz.results6, go_sem, TV.val, z0, z1, z2, z3]
   ·have hoc := owns_cells hm.owns
    obtain ⟨g, cp, hv, hg1, hg2, hcells⟩ := hoc.resolve_left (fun h => h0 (by rw [← hll, h.2]; rfl))
    rw [hll] at hv
    subst hv
    have hwr : W.heap.size + 2 ≤ wr.heap.size := by have := hb'.size; have := unhide HSZ; omega
    have hmt := markTerm_any wr
    have hBm : Below wr.heap.size wr (wr.alloc (.cells #[.int .i64 9, .int .i64 (-77), .string ⟨#[115, 112, 111, 105, 108, 116]⟩, .slice none 0 0] 24)) := (Below.refl _ wr).alloc (Nat.le_refl _) _
    have hro := roomyT_any g 0 j cp (l.flatMap TV.row) (wr.alloc (.cells #[.int .i64 9, .int .i64 (-77), .string ⟨#[115, 112, 111, 105, 108, 116]⟩, .slice none 0 0] 24)) hmax (by rw [row_len, hll]) (fun q u hq => by
     rw [addr_add, Nat.zero_add]
     refine (hBm.cell (p := ⟨g, q, none⟩) hg2).trans ?_
     obtain ⟨_, h2⟩ := hm.owns
     rcases h2 with ⟨h, _⟩ | ⟨g', cap', cur, h, _, hbk, _, _, _, htk⟩
     ·cases h
     ·simp only [Value.slice.injEq, Option.some.injEq, Addr.mk.injEq, and_true] at h
      obtain ⟨rfl, _, rfl⟩ := h
      rw [← htk, List.getElem?_take] at hq
      split at hq
      ·simp [World.cell?, hbk]
       simpa using hq
      ·cases hq) (rows_one l) (by simp; omega)
    have HFIN : Hid (∀ V v, Below (wr.alloc (.cells #[.int .i64 9, .int .i64 (-77), .string ⟨#[115, 112, 111, 105, 108, 116]⟩, .slice none 0 0] 24)).heap.size (wr.alloc (.cells #[.int .i64 9, .int .i64 (-77), .string ⟨#[115, 112, 111, 105, 108, 116]⟩, .slice none 0 0] 24)) V → Roomy (wr.alloc (.cells #[.int .i64 9, .int .i64 (-77), .string ⟨#[115, 112, 111, 105, 108, 116]⟩, .slice none 0 0] 24)).heap.size V v j (l.flatMap TV.row) → ∃ g' cp', v = .slice (some ⟨g', 0, none⟩) j cp' ∧ Below wr.heap.size wr V ∧ (Below W.heap.size W (set4 (V.setCell ⟨W.heap.size, 3, none⟩ (.slice (some ⟨g', 0, none⟩) j cp')) (W.heap.size + 1) 0 ⟨k, N, s, some ⟨g', 0, none⟩, j, cp'⟩) ∧ Owned W.heap.size (set4 (V.setCell ⟨W.heap.size, 3, none⟩ (.slice (some ⟨g', 0, none⟩) j cp')) (W.heap.size + 1) 0 ⟨k, N, s, some ⟨g', 0, none⟩, j, cp'⟩) (n := n + 1) ((⟨k, N, s, some ⟨g', 0, none⟩, j, cp'⟩, ks) : TV × List (Tm n)))) := fun V v hV hR => by
     have hwV : Below wr.heap.size wr V := hBm.trans (hV.mono (by simp))
     obtain ⟨g', cp', cur, rfl, hg', q⟩ := hR.ex
     refine ⟨g', cp', rfl, hwV, owned_end hll (by omega) hs (by omega) hlim ((unhide HHr).below.trans (hwV.mono (unhide HHr).below.size)) hm.tvs (fun u hu => (hm.kid u hu).1.below hwV) ⟨g', cp', cur, rfl, by simp at hg'; omega, q⟩⟩
    have HCODE : Hid (ks.flatMap code = kids.flatMap code) := hcd
    clear hm hoc hcells hcd ht hkids hBm x0 x1 x2
    simp only [markV, TV.val] at hmt
    go_wp2_with fail
    refine hmt.mono ?_
    clear hmt
    rintro e V1 ⟨rfl, rfl⟩
    go_wp2_with fail
    refine hro.mono ?_
    clear hro
    rintro e V2 ⟨v, rfl, hV, hR⟩
    obtain ⟨g', cp', rfl, hwV, hfin⟩ := HFIN.out V2 v hV hR
    have hH2 := (unhide HHr).next hwV
    have x0 := hH2.ba.c0
    have x1 := hH2.ba.c1
    have x2 := hH2.ba.c2
    have x3' := hH2.ba.c3
    simp only at x0 x1 x2 x3'
    obtain ⟨⟨z0, z1, z2, z3⟩, y0, y1, y2, y3⟩ := zbox_kept hH2.bz
    have f3 : V2.frozen? ⟨W.heap.size, 3, none⟩ = false := by simp [World.frozen?, show V2.heap[W.heap.size]? = _ from hH2.ba]
    have HF := hide hfin
    clear hfin hV hR hwV hH2 HFIN x3 hb hb'
    go_wp2_with fail
    refine bodyPost_ret (v := (⟨k, N, s, some ⟨g', 0, none⟩, j, cp'⟩ : TV).val) ?_ rfl ⟨((⟨k, N, s, some ⟨g', 0, none⟩, j, cp'⟩, ks) : TV × List (Tm n)), rfl, HF.out.1, HF.out.2, by rw [code_succ, HCODE.out]; rfl⟩
    simp [results, Tryz.results6, go_sem, TV.val, z0, z1, z2, z3]
theorem own_any : ∀ (n : Nat) (t : Tm n) (W : World), IsT W.heap.size W t → (∀ x ∈ code t, x.2.2.2 ≤ 4194304) → Calls Tryz.prog 6 #[t.tv.val] W fun e W' => ∃ t' : Tm n, e = .returned t'.tv.val ∧ Below W.heap.size W W' ∧ Owned W.heap.size W' t' ∧ code t' = code t := by
 intro n
 induction n with
 | zero => intro t; exact Empty.elim t
 | succ n ih =>
  intro t W hT hl
  obtain ⟨⟨k, N, s, a, len, cap⟩, kids⟩ := t
  obtain ⟨h1, ⟨h2, h2', h2''⟩, h3, h4⟩ := hT
  rw [code_succ] at hl ⊢
  simp only [Tm.tv, Tm.kids] at h1 h2 h3 h4 hl
  exact own_step ih k N s a len cap kids W h3 h1 (hl (k, N, s.toList, len) (List.mem_cons_self ..)) (fun u hu x hx => hl x (List.mem_cons_of_mem _ (List.mem_flatMap.2 ⟨u, hu, hx⟩))) h2'' h4
/- The contract of hornkeep.still: what is as it was, its spare room too. -/
theorem all2_at {α : Type} {f : α → α → Bool} : ∀ (a b : List α) (j : Nat) (u v : α), all2 f a b = true → a[j]? = some u → b[j]? = some v → f u v = true := by
 intro a
 induction a with
 | nil => intro b j u v _ h; simp at h
 | cons x a ih =>
  intro b j u v h hu hv
  cases b with
  | nil => simp at hv
  | cons y b =>
   simp only [all2, Bool.and_eq_true] at h
   cases j with
   | zero => simp at hu hv; subst hu; subst hv; exact h.1
   | succ j => exact ih b j u v h.2 (by simpa using hu) (by simpa using hv)
theorem bytes_inj {s s' : ByteArray} (h : s.toList = s'.toList) : s = s' := by
 rw [ByteArray.toList_eq, ByteArray.toList_eq] at h
 cases s; cases s'
 simp at h
 rw [h]
theorem mark_is (n₀ : Nat) (W : World) : IsT n₀ W (markT 0) := ⟨rfl, ⟨by simp [markT, Tm.tv, markV], by simp [markT, Tm.tv, markV], by decide⟩, by show (markV).s.size ≤ _; decide, .inl rfl⟩
theorem mark_same (w : World) : Calls Tryz.prog 12 #[markV.val, markV.val] w fun e W' => e = .returned (.bool true) ∧ Below w.heap.size w W' :=
 (same_any 1 (markT 0) (markT 0) w (mark_is _ _) (mark_is _ _)).mono fun e W' h => by
  have : sameT (markT 0) (markT 0) = true := by decide +kernel
  rw [this] at h
  exact h
set_option maxRecDepth 100000 in
set_option maxHeartbeats 2000000 in
theorem still_any : ∀ (n : Nat) (x y : Tm n) (w : World), IsT w.heap.size w x → RmT w x → IsT w.heap.size w y → sameT x y = true → (code x).length ≤ 4194304 → Calls Tryz.prog 11 #[x.tv.val, y.tv.val] w fun e W' => e = .returned (.bool true) ∧ Below w.heap.size w W' := by
 intro n
 induction n with
 | zero => intro t; exact Empty.elim t
 | succ n ih =>
  intro x y w hx hrm hy hsm hbig
  obtain ⟨⟨k, kN, s, a, len, cap⟩, kids⟩ := x
  obtain ⟨⟨k', kN', s', a', len', cap'⟩, kids'⟩ := y
  obtain ⟨hlen, ⟨hmax, hlc, _⟩, hss, hkids⟩ := hx
  obtain ⟨hlen', ⟨hmax', _, _⟩, hss', hkids'⟩ := hy
  obtain ⟨hr1, hr2⟩ := hrm
  simp only [Tm.tv, Tm.kids] at hlen hmax hlc hkids hlen' hmax' hkids' hr1 hr2
  simp only [sameT, Tm.tv, Tm.kids, Bool.and_eq_true] at hsm
  rw [code_succ, List.length_cons] at hbig
  have hsmall : len ≤ 4194304 := by have := codes_len kids; omega
  have HCU : Hid (∀ u ∈ kids, (code u).length ≤ 4194304) := fun u hu => Nat.le_trans (code_le hu) (by omega)
  clear hbig
  obtain ⟨hst, hall⟩ := hsm
  simp [stop] at hst
  obtain ⟨rfl, rfl, hse, rfl⟩ := hst
  obtain rfl := bytes_inj hse
  have HI := hide ih
  have HA := hide hall
  have HR2 := hide hr2
  clear ih hall hse hss hss' hr2
  have hl1 : len ≤ kids.length := by omega
  have hl2 : kids.length ≤ len := by omega
  have hl3 : len ≤ kids'.length := by omega
  have HROOM : Hid (¬ len = 0 → len + 3 ≤ cap ∧ ∃ b, a = some ⟨b, 0, none⟩ ∧ b < w.heap.size ∧ ∀ i, i < 3 → cellsAt w b ((len + i) * 4) markV) := fun h0 => by
   have hne : kids ≠ [] := fun e => h0 (by rw [hlen, e]; rfl)
   obtain ⟨⟨h1, _, _⟩, b, ha, _, hm⟩ := hr1.resolve_left (fun h => hne h.1)
   obtain ⟨b', off, ha', hb', _⟩ := hkids.resolve_left hne
   rw [ha] at ha'
   simp at ha'
   obtain ⟨rfl, _⟩ := ha'
   exact ⟨h1, b, ha, hb', hm⟩
  clear hlen hlen' hr1
  simp only [TV.val, Tm.tv]
  go_enter Tryz.func11, Tryz.ntmps11
  go_wp2_with fail
  obtain ⟨W1, hW1⟩ : ∃ W1, (w.alloc (.cells #[.int .i64 k, .int .i64 kN, .string s, .slice a len cap] 24)).alloc (.cells #[.int .i64 k, .int .i64 kN, .string s, .slice a' len cap'] 24) = W1 := ⟨_, rfl⟩
  have hBB := Below.refl ((w.alloc (.cells #[.int .i64 k, .int .i64 kN, .string s, .slice a len cap] 24)).alloc (.cells #[.int .i64 k, .int .i64 kN, .string s, .slice a' len cap'] 24)).heap.size ((w.alloc (.cells #[.int .i64 k, .int .i64 kN, .string s, .slice a len cap] 24)).alloc (.cells #[.int .i64 k, .int .i64 kN, .string s, .slice a' len cap'] 24))
  obtain ⟨⟨hb1, hzz⟩, hcc, hcd⟩ := two_boxes hBB
  clear hBB
  rw [hW1] at hb1 hzz hcc hcd ⊢
  clear hW1
  go_loopw [39] (fun i wr => ∃ j : Nat, j ≤ len ∧ i = .int .i64 j ∧ Below W1.heap.size W1 wr) (fun i _ => len - (intOf i).toNat)
  case atStart => exact ⟨0, Nat.zero_le _, rfl, Below.refl _ _⟩
  case round =>
   obtain ⟨j, hj, rfl, hb⟩ := hrel
   have hbw : Below w.heap.size w wr := hb1.trans (hb.mono (by omega))
   replace hcc := (hb.cell (p := ⟨w.heap.size, 3, none⟩) (by simp; omega)).trans hcc
   replace hcd := (hb.cell (p := ⟨w.heap.size + 1, 3, none⟩) (by simp; omega)).trans hcd
   by_cases hlt : j < len
   ·obtain ⟨u, b, off, hu, rfl, ⟨c0, c1, c2, c3⟩, hT, hbk⟩ := kid_at hkids hbw hlt hl1
    obtain ⟨v, b', off', hv, rfl, ⟨d0, d1, d2, d3⟩, hT', hbk'⟩ := kid_at hkids' hbw hlt hl3
    have hj1 : (j : Int) < len := by omega
    have hRu : RmT wr u := ((unhide HR2) u (List.mem_of_getElem? hu)).fromS (S := fun k => k < w.heap.size) (fun k hk => hbw.block k hk) (by
     obtain ⟨bb, oo, e, _, hk⟩ := hkids.resolve_left (by rintro rfl; simp at hu)
     exact (hk j u hu).2.blk)
    have ihu : Calls Tryz.prog 11 #[.agg #[.int .i64 u.tv.k, .int .i64 u.tv.N, .string u.tv.s, .slice u.tv.a u.tv.len u.tv.cap], .agg #[.int .i64 v.tv.k, .int .i64 v.tv.N, .string v.tv.s, .slice v.tv.a v.tv.len v.tv.cap]] wr.drew fun e W2 => e = .returned (.bool true) ∧ Below wr.heap.size wr W2 :=
     ((unhide HI) u v wr.drew (hT.below (Below.refl _ wr).drew) (RmT.fromS (A := wr) (B := wr.drew) (S := fun _ => True) (fun _ _ => rfl) hRu (hT.blk.mono fun _ _ => trivial)) (hT'.below (Below.refl _ wr).drew) (all2_at kids kids' j u v (unhide HA) hu hv) (HCU.out u (List.mem_of_getElem? hu))).mono fun e W2 h => ⟨h.1, (Below.refl _ wr).drew.trans h.2⟩
    have hy1 : w.heap.size < wr.heap.size := by have := hb.size; omega
    have hy2 : w.heap.size + 1 < wr.heap.size := by have := hb.size; omega
    have hy3 : b < wr.heap.size := by omega
    have hy4 : b' < wr.heap.size := by omega
    clear hkids hkids' hT hT' hu hv hRu
    go_wp2_with fail
    go_region_held3 (fun w' => w'.cell? ⟨w.heap.size, 3, none⟩ = some (.slice (some ⟨b, off, none⟩) len cap) ∧ w'.cell? ⟨w.heap.size + 1, 3, none⟩ = some (.slice (some ⟨b', off', none⟩) len cap')
     ∧ w'.cell? ⟨b, off + j * 4, none⟩ = some (.int .i64 u.tv.k) ∧ w'.cell? ⟨b, off + j * 4 + 1, none⟩ = some (.int .i64 u.tv.N) ∧ w'.cell? ⟨b, off + j * 4 + 2, none⟩ = some (.string u.tv.s) ∧ w'.cell? ⟨b, off + j * 4 + 3, none⟩ = some (.slice u.tv.a u.tv.len u.tv.cap)
     ∧ w'.cell? ⟨b', off' + j * 4, none⟩ = some (.int .i64 v.tv.k) ∧ w'.cell? ⟨b', off' + j * 4 + 1, none⟩ = some (.int .i64 v.tv.N) ∧ w'.cell? ⟨b', off' + j * 4 + 2, none⟩ = some (.string v.tv.s) ∧ w'.cell? ⟨b', off' + j * 4 + 3, none⟩ = some (.slice v.tv.a v.tv.len v.tv.cap)) (go_keep)
     (first | (go_at_call 11; refine ihu.mono ?_; clear ihu; rintro e W2 ⟨rfl, hb2⟩; have hbc := bcell hb2))
    go_wp2_with fail
    go_roundw
    case rel => exact ⟨j + 1, by omega, by go_num, hb.trans (hb2.mono hb.size)⟩
    case measure => simp [intOf]; omega
   ·obtain rfl : j = len := by omega
    clear hkids hkids'
    by_cases h0 : j = 0
    ·subst h0
     go_wp2_with fail
     go_ret
     exact ⟨rfl, hbw⟩
    ·obtain ⟨hr3, b, rfl, hbl, hmk⟩ := HROOM.out h0
     have hj0 : ((j : Int) == 0) = false := by simp [h0]
     have hcap0 : ¬ cap = j := by omega
     have HMK := hide hmk
     have HBW := hide hbw
     clear hmk
     go_wp2_with fail
     obtain ⟨wo, rfl⟩ : ∃ wo, wo = wr := ⟨wr, rfl⟩
     simp only [Nat.add_sub_cancel_left]
     go_loopw [71] (fun i wr => ∃ q : Nat, q ≤ 3 ∧ i = .int .i64 q ∧ Below wo.heap.size wo wr) (fun i _ => 3 - (intOf i).toNat)
     case atStart => exact ⟨0, by omega, rfl, Below.refl _ _⟩
     case round =>
      obtain ⟨q, hq, rfl, hbq⟩ := hrel
      have hbW : Below w.heap.size w wr := (unhide HBW).trans (hbq.mono (unhide HBW).size)
      by_cases hq3 : q < 3
      ·obtain ⟨c0, c1, c2, c3⟩ := ((unhide HMK) q hq3).kept (hbW.block b hbl)
       rw [Nat.add_mul] at c0 c1 c2 c3
       simp only [markV] at c0 c1 c2 c3
       have hmt : ∀ w', Calls Tryz.prog 23 #[] w' fun e W' => e = .returned (.agg #[.int .i64 9, .int .i64 (-77), .string ⟨#[115, 112, 111, 105, 108, 116]⟩, .slice none 0 0]) ∧ Below w'.heap.size w' W' := fun w' => (markTerm_any w').mono fun e W' h => ⟨h.1, by rw [h.2]; exact (Below.refl _ w').alloc (Nat.le_refl _) _⟩
       have hsa : ∀ w', Calls Tryz.prog 12 #[.agg #[.int .i64 9, .int .i64 (-77), .string ⟨#[115, 112, 111, 105, 108, 116]⟩, .slice none 0 0], .agg #[.int .i64 9, .int .i64 (-77), .string ⟨#[115, 112, 111, 105, 108, 116]⟩, .slice none 0 0]] w' fun e W' => e = .returned (.bool true) ∧ Below w'.heap.size w' W' := fun w' => mark_same w'
       have hq1 : (q : Int) < 3 := by omega
       have hbl' : b < wr.heap.size := Nat.lt_of_lt_of_le hbl hbW.size
       go_wp2_with fail
       go_region_held3 (fun w' => w'.cell? ⟨b, j * 4 + q * 4, none⟩ = some (.int .i64 9) ∧ w'.cell? ⟨b, j * 4 + q * 4 + 1, none⟩ = some (.int .i64 (-77)) ∧ w'.cell? ⟨b, j * 4 + q * 4 + 2, none⟩ = some (.string ⟨#[115, 112, 111, 105, 108, 116]⟩) ∧ w'.cell? ⟨b, j * 4 + q * 4 + 3, none⟩ = some (.slice none 0 0)) (go_keep)
        (first | (go_at_call 23; refine (hmt _).mono ?_; clear hmt; rintro e W2 ⟨rfl, hb2⟩; have hg2 : Below wr.heap.size wr W2 := (Below.refl _ wr).drew.trans hb2; have hbc := bcell hg2) | (go_at_call 12; refine (hsa _).mono ?_; clear hsa; rintro e W3 ⟨rfl, hb3⟩; have hg3 : Below wr.heap.size wr W3 := hg2.trans (hb3.mono hg2.size); have hbd := bcell hg3))
       go_wp2_with fail
       go_roundw
       case rel => exact ⟨q + 1, by omega, by go_num, hbq.trans (hg3.mono hbq.size)⟩
       case measure => simp [intOf]; omega
      ·obtain rfl : q = 3 := by omega
       go_wp2_with fail
       go_ret
       exact ⟨rfl, hbW⟩
/- Terms whose rows are whole blocks of terms; a compound of a row. -/
end Go.Proofs.YtlbobmebbllifaaGreat
