import Derived.Test.YtcdgmjpgmiehcaaUs
import Derived.Deep.RegionWith
import Derived.Deep.DeepMust
import Derived.Test.YtcdgmjpgmiehcaaHcs
/- The contract of term.Apply. -/
namespace Go.Proofs.Ytcdgmjpgmiehcaa
open Go.RowKit Go.Shelf

/-- replace with what a list of binds says, in whatever world behind w that bears the closure's box. -/
theorem replace_binds {n : Nat} (t : Tm n) (bs : List (Int × Tm n)) (a : Option Addr) (len cap B : Nat) (w : World) (hT : IsT w.heap.size w t) (hok : okT t = true) (hl : IsL w.heap.size w a len bs) (hri : Rises bs) (hokb : ∀ p ∈ bs, okT p.2 = true) (W : World) (hb : Below w.heap.size w W) (hbox : Boxed W B 94 (.slice a len cap)) :
    Calls Try.prog 41 #[t.tv.val, .func (.func 64) #[] #[.pointer (some ⟨B, 0, none⟩)]] W fun e W' => ∃ v, e = .returned v ∧ Below W.heap.size W W' ∧ HoldsT (n + (n + 1)) W.heap.size W' v ((code t).flatMap (subN (lookC (cb bs)))) :=
  replace_any 64 #[.pointer (some ⟨B, 0, none⟩)] (lookC (cb bs)) (n + 1) W (by omega) (enters_of Try.func64 (by kernel_rfl) rfl)
    (becoming_becomes bs a len cap B W hbox ((hl.below hb).mono hb.size) hri hokb) n t W (Below.refl _ _) ((hT.below hb).mono hb.size) hok

/-- checkBinds of one list, laid in a new block. -/
theorem checkOne {n : Nat} (bs : List (Int × Tm n)) (a : Option Addr) (len cap : Nat) (W : World) (hl : IsL W.heap.size W a len bs) :
    Calls Try.prog 60 #[.slice (some ⟨W.heap.size, 0, none⟩) 1 1] (W.alloc (.cells #[.slice a len cap] 94)) fun e W' => BindSays [⟨a, len, cap, bs⟩] e ∧ Below W.heap.size W W' := by
  have hb : Below W.heap.size W (W.alloc (.cells #[.slice a len cap] 94)) := (Below.refl _ W).alloc (Nat.le_refl _) _
  refine (checkBinds_any [⟨a, len, cap, bs⟩] W.heap.size 0 1 1 _ rfl (by omega) (fun i L hL => ?_) (by simp)).mono fun e W' h => ⟨h.1, hb.trans (h.2.mono hb.size)⟩
  match i, hL with
  | 0, hL =>
    simp at hL; subst hL
    exact ⟨by simp, (hl.below hb).mono hb.size⟩
  | i + 1, hL => simp at hL
theorem says_one_ok {n : Nat} {L : BL n} {e : Ending} (h : BindSays [L] e) (h1 : okB L) (h2 : Subst L.bs) : e = .returned (.int .i64 0) := by
  obtain ⟨r, rfl, _, _, h0⟩ := h
  rw [h0 (by simpa using h1) (by simpa using h2)]
theorem says_one_no {n : Nat} {L : BL n} {e : Ending} (h : BindSays [L] e) (h1 : ¬ (okB L ∧ Subst L.bs)) : ∃ r : Int, e = .returned (.int .i64 r) ∧ (r = 1 ∨ r = 2) ∧ (okB L → r = 1) ∧ (¬ okB L → r = 2) := by
  obtain ⟨r, rfl, k2, k1, _⟩ := h
  by_cases hok : okB L
  · have hs : ¬ Subst L.bs := fun h => h1 ⟨hok, h⟩
    have hr := k1 (by simpa using hok) (by simpa using hs)
    exact ⟨r, rfl, .inl hr, fun _ => hr, fun h => (h hok).elim⟩
  · have hr := k2 (by simpa using hok)
    exact ⟨r, rfl, .inr hr, fun h => (hok h).elim, fun _ => hr⟩

/-- The term's box and the cell of the result, at the head of a call's own memory. -/
structure Head (w W : World) (x : TV) : Prop where
  below : Below w.heap.size w W
  ba : BoxT W w.heap.size x
  bz : W.heap[w.heap.size + 1]? = some (.cells #[.int .i64 0, .int .i64 0, .string ⟨#[]⟩, .slice none 0 0] 24 (0, 0))
theorem Head.lt {w W : World} {x : TV} (h : Head w W x) : w.heap.size + 1 < W.heap.size := (Array.getElem?_eq_some_iff.1 h.bz).1
theorem Head.next {w W W' : World} {x : TV} (h : Head w W x) (hb : Below W.heap.size W W') : Head w W' x :=
  ⟨h.below.trans (hb.mono h.below.size), (hb.block _ h.ba.lt).trans h.ba, (hb.block _ h.lt).trans h.bz⟩
theorem Head.new (w : World) (x : TV) : Head w ((w.alloc (.cells #[.int .i64 x.k, .int .i64 x.N, .string x.s, .slice x.a x.len x.cap] 24)).alloc (.cells #[.int .i64 0, .int .i64 0, .string ⟨#[]⟩, .slice none 0 0] 24)) x := by
  have h := World.alloc_heap_new (w.alloc (.cells #[.int .i64 x.k, .int .i64 x.N, .string x.s, .slice x.a x.len x.cap] 24)) (.cells #[.int .i64 0, .int .i64 0, .string ⟨#[]⟩, .slice none 0 0] 24)
  rw [World.size_alloc] at h
  exact ⟨((Below.refl _ w).alloc (Nat.le_refl _) _).alloc (by simp) _, (BoxT.new w x).alloc _, h⟩

set_option maxRecDepth 100000 in
set_option maxHeartbeats 1000000 in
theorem apply_ok {n : Nat} (t : Tm n) (bs : List (Int × Tm n)) (a : Option Addr) (len cap : Nat) (w : World) (hT : IsT w.heap.size w t) (hl : IsL w.heap.size w a len bs) (hok : okT t = true) (hokb : ∀ p ∈ bs, okT p.2 = true) (hsub : Subst bs) :
    Calls Try.prog 58 #[t.tv.val, .slice a len cap] w fun e W' => ∃ x : TV, e = .returned (.tuple #[x.val, .int .i64 0]) ∧ Below w.heap.size w W' ∧ HoldsT (n + (n + 1)) w.heap.size W' x.val ((code t).flatMap (subN (lookC (cb bs)))) := by
  have hB1 : Below w.heap.size w ((w.alloc (.cells #[.int .i64 t.tv.k, .int .i64 t.tv.N, .string t.tv.s, .slice t.tv.a t.tv.len t.tv.cap] 24)).alloc (.cells #[.int .i64 0, .int .i64 0, .string ⟨#[]⟩, .slice none 0 0] 24)) := ((Below.refl _ w).alloc (Nat.le_refl _) _).alloc (by simp) _
  have hck := check_any t _ ((hT.below hB1).mono hB1.size)
  rw [chk_yes hok] at hck
  have hH := Head.new w t.tv
  simp only [TV.val] at hck ⊢
  have hrep := replace_binds t bs a len cap
  have HT := hide hT
  have HL := hide hl
  have HOK := hide hok
  have HOKB := hide hokb
  have HSUB := hide hsub
  have HREP := hide hrep
  clear hT hl hok hokb hsub hrep
  go_enter Try.func58, Try.ntmps58
  go_wp2_with fail
  refine hck.mono ?_
  clear hck
  rintro e W1 ⟨rfl, hb1⟩
  replace hH := hH.next hb1
  clear hb1 hB1
  go_wp2_with fail
  refine (checkOne bs a len cap W1 (((unhide HL).below hH.below).mono hH.below.size)).mono ?_
  rintro e W2 ⟨hsay, hb2⟩
  obtain rfl := says_one_ok hsay (unhide HOKB) (unhide HSUB)
  replace hH := hH.next hb2
  clear hb2 hsay
  have c0 := hH.ba.c0
  have c1 := hH.ba.c1
  have c2 := hH.ba.c2
  have c3 := hH.ba.c3
  have hbA : Below W2.heap.size W2 (W2.alloc (.cells #[.slice a len cap] 94)).drew := ((Below.refl _ W2).alloc (Nat.le_refl _) _).drew
  have hbx : Boxed (W2.alloc (.cells #[.slice a len cap] 94)).drew W2.heap.size 94 (.slice a len cap) := Boxed.new W2 94 (.slice a len cap)
  have hr2 : Calls Try.prog 41 #[.agg #[.int .i64 t.tv.k, .int .i64 t.tv.N, .string t.tv.s, .slice t.tv.a t.tv.len t.tv.cap], .func (.func 64) #[] #[.pointer (some ⟨W2.heap.size, 0, none⟩)]] (W2.alloc (.cells #[.slice a len cap] 94)).drew fun e W3 => ∃ x : TV, e = .returned x.val ∧ (Head w W3 t.tv ∧ HoldsT (n + (n + 1)) (w.heap.size + 2) W3 x.val ((code t).flatMap (subN (lookC (cb bs))))) ∧
      (W3.cell? ⟨w.heap.size + 1, 0, none⟩ = some (.int .i64 0) ∧ W3.cell? ⟨w.heap.size + 1, 1, none⟩ = some (.int .i64 0) ∧ W3.cell? ⟨w.heap.size + 1, 2, none⟩ = some (.string ⟨#[]⟩) ∧ W3.cell? ⟨w.heap.size + 1, 3, none⟩ = some (.slice none 0 0)) ∧ (W3.frozen? ⟨w.heap.size + 1, 0, none⟩ = false ∧ W3.frozen? ⟨w.heap.size + 1, 1, none⟩ = false ∧ W3.frozen? ⟨w.heap.size + 1, 2, none⟩ = false ∧ W3.frozen? ⟨w.heap.size + 1, 3, none⟩ = false) := by
    refine ((unhide HREP) W2.heap.size w (unhide HT) (unhide HOK) (unhide HL) (unhide HSUB).2 (unhide HOKB) _ (hH.below.trans (hbA.mono hH.below.size)) hbx).mono fun e W3 h => ?_
    obtain ⟨v, he, hb3, hv⟩ := h
    obtain ⟨t3, ht3, -⟩ := hv _ (Nat.le_refl _)
    have hH3 := (hH.next hbA).next hb3
    refine ⟨t3.tv, by rw [he, ht3], ⟨hH3, ?_⟩, zbox_kept hH3.bz⟩
    rw [← ht3]
    exact hv.mono (Nat.le_refl _) (by have := (hH.next hbA).lt; omega)
  clear hbA hbx HREP
  have hlt2 := hH.lt
  have hlt1 : w.heap.size < W2.heap.size := by omega
  simp only [TV.val] at hr2
  go_wp2_with fail
  go_region_with (first
    | (go_at_call 61; refine (becoming_any _ _ _ _).mono ?_; rintro e W3 ⟨rfl, rfl⟩)
    | (go_at_call 41; refine hr2.mono ?_; clear hr2; rintro e W3 ⟨x, rfl, hfin, ⟨z0, z1, z2, z3⟩, y0, y1, y2, y3⟩))
  all_goals
    have HFIN := hide hfin
    clear hfin
    go_wp2_with fail
    exact bodyPost_ret (v := .tuple #[x.val, .int .i64 0]) (by simp [results, Try.results58, go_sem, TV.val, z0, z1, z2, z3]) rfl ⟨x, rfl, set4_below (unhide HFIN).1.below (by omega) 0 x, (holds_set4 (unhide HFIN).2 (by omega) 0 x).mono (Nat.le_refl _) (by omega)⟩

set_option maxRecDepth 100000 in
set_option maxHeartbeats 1000000 in
theorem apply_bad {n : Nat} (t : Tm n) (a : Option Addr) (len cap : Nat) (w : World) (hT : IsT w.heap.size w t) (hok : okT t = false) :
    Calls Try.prog 58 #[t.tv.val, .slice a len cap] w fun e W' => e = .returned (.tuple #[.agg #[.int .i64 0, .int .i64 0, .string ⟨#[]⟩, .slice none 0 0], .int .i64 2]) ∧ Below w.heap.size w W' := by
  have hB1 : Below w.heap.size w ((w.alloc (.cells #[.int .i64 t.tv.k, .int .i64 t.tv.N, .string t.tv.s, .slice t.tv.a t.tv.len t.tv.cap] 24)).alloc (.cells #[.int .i64 0, .int .i64 0, .string ⟨#[]⟩, .slice none 0 0] 24)) := ((Below.refl _ w).alloc (Nat.le_refl _) _).alloc (by simp) _
  have hck := check_any t _ ((hT.below hB1).mono hB1.size)
  rw [chk_no hok] at hck
  have hH := Head.new w t.tv
  simp only [TV.val] at hck ⊢
  clear hT hok hB1
  go_enter Try.func58, Try.ntmps58
  go_wp2_with fail
  refine hck.mono ?_
  clear hck
  rintro e W1 ⟨rfl, hb1⟩
  replace hH := hH.next hb1
  clear hb1
  obtain ⟨⟨z0, z1, z2, z3⟩, y0, y1, y2, y3⟩ := zbox_kept hH.bz
  have HH := hide hH
  clear hH
  go_wp2_with fail
  exact bodyPost_ret (v := .tuple #[.agg #[.int .i64 0, .int .i64 0, .string ⟨#[]⟩, .slice none 0 0], .int .i64 2]) (by simp [results, Try.results58, go_sem, z0, z1, z2, z3]) rfl ⟨rfl, set4_below (unhide HH).below (by omega) 0 ⟨0, 0, ⟨#[]⟩, none, 0, 0⟩⟩

set_option maxRecDepth 100000 in
set_option maxHeartbeats 1000000 in
theorem apply_err {n : Nat} (t : Tm n) (bs : List (Int × Tm n)) (a : Option Addr) (len cap : Nat) (w : World) (hT : IsT w.heap.size w t) (hl : IsL w.heap.size w a len bs) (hok : okT t = true) (hno : ¬ ((∀ p ∈ bs, okT p.2 = true) ∧ Subst bs)) :
    Calls Try.prog 58 #[t.tv.val, .slice a len cap] w fun e W' => ∃ r : Int, e = .returned (.tuple #[.agg #[.int .i64 0, .int .i64 0, .string ⟨#[]⟩, .slice none 0 0], .int .i64 r]) ∧ ((r = 1 ∨ r = 2) ∧ ((∀ p ∈ bs, okT p.2 = true) → r = 1) ∧ ((¬ ∀ p ∈ bs, okT p.2 = true) → r = 2)) ∧ Below w.heap.size w W' := by
  have hB1 : Below w.heap.size w ((w.alloc (.cells #[.int .i64 t.tv.k, .int .i64 t.tv.N, .string t.tv.s, .slice t.tv.a t.tv.len t.tv.cap] 24)).alloc (.cells #[.int .i64 0, .int .i64 0, .string ⟨#[]⟩, .slice none 0 0] 24)) := ((Below.refl _ w).alloc (Nat.le_refl _) _).alloc (by simp) _
  have hck := check_any t _ ((hT.below hB1).mono hB1.size)
  rw [chk_yes hok] at hck
  have hH := Head.new w t.tv
  simp only [TV.val] at hck ⊢
  have HL := hide hl
  have HNO := hide hno
  clear hT hok hl hno hB1
  go_enter Try.func58, Try.ntmps58
  go_wp2_with fail
  refine hck.mono ?_
  clear hck
  rintro e W1 ⟨rfl, hb1⟩
  replace hH := hH.next hb1
  clear hb1
  go_wp2_with fail
  refine (checkOne bs a len cap W1 (((unhide HL).below hH.below).mono hH.below.size)).mono ?_
  rintro e W2 ⟨hsay, hb2⟩
  obtain ⟨r, rfl, hr, hr1, hr2⟩ := says_one_no hsay (unhide HNO)
  replace hH := hH.next hb2
  have hr0 : (r != 0) = true := by rw [bne_iff_ne]; omega
  have HR := hide (And.intro hr (And.intro hr1 hr2))
  clear hb2 hsay hr hr1 hr2
  obtain ⟨⟨z0, z1, z2, z3⟩, y0, y1, y2, y3⟩ := zbox_kept hH.bz
  have HH := hide hH
  clear hH
  go_wp2_with fail
  exact bodyPost_ret (v := .tuple #[.agg #[.int .i64 0, .int .i64 0, .string ⟨#[]⟩, .slice none 0 0], .int .i64 r]) (by simp [results, Try.results58, go_sem, z0, z1, z2, z3]) rfl ⟨r, rfl, unhide HR, set4_below (unhide HH).below (by omega) 0 ⟨0, 0, ⟨#[]⟩, none, 0, 0⟩⟩
end Go.Proofs.Ytcdgmjpgmiehcaa

/- The contract of hornref.Apply: each variable of a term gives way to what the binds say; the answer may share memory with the binds. -/
namespace Go.Proofs.Ytcdgmjpgmiehcaa
open Go.RowKit Go.Shelf

/-- Old memory (below ns), or laid since. -/
def Mix (ns lo : Nat) (b : Nat) : Prop := b < ns ∨ lo ≤ b

theorem addr_add (b o n : Nat) : Addr.add ⟨b, o, none⟩ n = ⟨b, o + n, none⟩ := by
  unfold Addr.add; split
  · rename_i h; subst h; rfl
  · rfl
theorem new_cells {W5 : World} {x : TV} : ∀ j u, x.row[j]? = some u → (W5.alloc (.cells #[.int .i64 x.k, .int .i64 x.N, .string x.s, .slice x.a x.len x.cap] 24)).cell? ((⟨W5.heap.size, 0, none⟩ : Addr).add j) = some u := by
  intro j u hj
  rw [addr_add, Nat.zero_add]
  match j, hj with
  | 0, hj => simp [TV.row] at hj; subst hj; simp
  | 1, hj => simp [TV.row] at hj; subst hj; simp
  | 2, hj => simp [TV.row] at hj; subst hj; simp
  | 3, hj => simp [TV.row] at hj; subst hj; simp
  | j + 4, hj => simp [TV.row] at hj
theorem row_one {x : TV} : ∀ u ∈ x.row, u.oneCell' = true := by
  intro u hu
  simp [TV.row] at hu
  rcases hu with rfl | rfl | rfl | rfl <;> rfl

/-- The end of hornref.Apply at a term that is no variable: the row of its new Args put into its box, and this into the result. -/
theorem args_end {D : Nat} {ns : Nat} {W wr : World} {k N : Int} {s : ByteArray} {len : Nat} {v : Value} {l : List TV} {c : List Nd} (hl : l.length = len) (hl50 : len ≤ 50) (hs : s.size ≤ 9223372036854775807) (hB : Below W.heap.size W wr) (hns : ns ≤ W.heap.size)
    (hm : Made D (Mix ns (W.heap.size + 2)) (W.heap.size + 2) wr v l c) :
    ∃ a' cap', v = .slice a' len cap' ∧ (let x : TV := ⟨k, N, s, a', len, cap'⟩
      Below W.heap.size W (set4 (wr.setCell ⟨W.heap.size, 3, none⟩ v) (W.heap.size + 1) 0 x) ∧ HoldsS (D + 1) (Mix ns W.heap.size) (set4 (wr.setCell ⟨W.heap.size, 3, none⟩ v) (W.heap.size + 1) 0 x) x.val ((k, N, s.toList, len) :: c)) := by
  have hoc := owns_cells hm.owns
  obtain ⟨a', cap', hv⟩ : ∃ a' cap', v = .slice a' len cap' := by
    rcases hoc with ⟨hv, hn⟩ | ⟨g, cp, hv, _⟩
    · subst hn; simp at hl; subst hl; exact ⟨none, 0, hv⟩
    · exact ⟨_, cp, by rw [hv, hl]⟩
  refine ⟨a', cap', hv, ?_⟩
  intro x
  have hother : ∀ b, b ≠ W.heap.size → b ≠ W.heap.size + 1 → (set4 (wr.setCell ⟨W.heap.size, 3, none⟩ v) (W.heap.size + 1) 0 x).heap[b]? = wr.heap[b]? := fun b h1 h2 =>
    (set4_other _ _ 0 x h2).trans (Below.heap_setCell _ _ _ _ h1)
  have hsz' : (set4 (wr.setCell ⟨W.heap.size, 3, none⟩ v) (W.heap.size + 1) 0 x).heap.size = wr.heap.size := by rw [set4_size]; simp
  refine ⟨set4_below (hB.setCell (p := ⟨W.heap.size, 3, none⟩) (Nat.le_refl _) _) (by omega) 0 x, fun m hm' hlim => ?_⟩
  obtain ⟨M, rfl⟩ : ∃ M, m = M + 1 := ⟨m - 1, by omega⟩
  obtain ⟨ks, k1, k2, k3⟩ := hm.kids M (by omega) (by omega)
  have hcl : len ≤ cap' := by
    rcases hm.owns.2 with ⟨h, hn⟩ | ⟨g, cp, cur, h, _, _, hnc, _⟩
    · omega
    · rw [hv] at h
      simp at h
      omega
  have hkl : ks.length = len := by rw [← hl, ← k1]; simp
  have hT : ∀ u ∈ ks, IsT wr.heap.size (set4 (wr.setCell ⟨W.heap.size, 3, none⟩ v) (W.heap.size + 1) 0 x) u := fun u hu =>
    (k2 u hu).1.fromS (fun b hb => hother b (by have := hb.2; unfold Mix at this; omega) (by have := hb.2; unfold Mix at this; omega)) (k2 u hu).2
  have hS : ∀ u ∈ ks, BlkT (Mix ns W.heap.size) u := fun u hu => (k2 u hu).2.mono fun b hb => by have := hb.2; unfold Mix at this ⊢; omega
  refine ⟨((x, ks) : TV × List (Tm M)), rfl, ?_, ?_, ?_⟩
  · rw [hsz']
    refine ⟨hkl.symm, ⟨?_, hcl, hlim⟩, hs, ?_⟩
    · show len ≤ _
      omega
    · rcases hoc with ⟨_, hn⟩ | ⟨g, cp, hv2, hg1, hg2, hcells⟩
      · left
        show ks = []
        apply List.length_eq_zero_iff.1
        rw [hkl, ← hl, hn]; rfl
      · right
        rw [hv] at hv2
        simp at hv2
        obtain ⟨e1, _, _⟩ := hv2
        refine ⟨g, 0, e1, hg2, fun j u hu => ⟨?_, hT u (List.mem_of_getElem? hu)⟩⟩
        rw [Nat.zero_add]
        have hu' : ks[j]? = some u := hu
        have : l[j]? = some u.tv := by rw [← k1, List.getElem?_map, hu']; rfl
        exact (hcells j u.tv this).kept (hother g (by omega) (by omega))
  · refine ⟨?_, hS⟩
    rcases hoc with ⟨_, hn⟩ | ⟨g, cp, hv2, hg1, hg2, hcells⟩
    · left
      show ks = []
      apply List.length_eq_zero_iff.1
      rw [hkl, ← hl, hn]; rfl
    · right
      rw [hv] at hv2
      simp at hv2
      obtain ⟨e1, _, _⟩ := hv2
      exact ⟨g, 0, e1, by unfold Mix; omega⟩
  · rw [code_succ, k3]; rfl

end Go.Proofs.Ytcdgmjpgmiehcaa

/- Terms that share memory: Same by codes; rows that were made. -/
namespace Go.Proofs.Ytcdgmjpgmiehcaa
open Go.RowKit Go.Shelf

theorem HoldsT.shared {D lo : Nat} {W : World} {v : Value} {c : List Nd} (h : HoldsT D lo W v c) {S : Nat → Prop} (hS : ∀ b, lo ≤ b → S b) : HoldsS D S W v c := fun m hm hl => by
  obtain ⟨t, h1, h2, h3, h4⟩ := h m hm
  exact ⟨t, h1, h2 hl, h3.new.blk.mono hS, h4⟩
theorem owns_base {W : World} {base base' : Nat} {e : TypeId} {sz : Nat} {v : Value} {n : Nat} {xs : List Value} (h : W.ownsRow base e sz v n xs) (hb : base' ≤ base) : W.ownsRow base' e sz v n xs := by
  obtain ⟨h1, h2⟩ := h
  refine ⟨h1, ?_⟩
  rcases h2 with h2 | ⟨g, cap, cur, hv, hg, r⟩
  · exact .inl h2
  · exact .inr ⟨g, cap, cur, hv, Nat.le_trans hb hg, r⟩
theorem Made.base {D : Nat} {S S' : Nat → Prop} {base base' : Nat} {W : World} {v : Value} {l : List TV} {c : List Nd} (h : Made D S base W v l c) (hb : base' ≤ base) (hS : ∀ b, S b → S' b) : Made D S' base' W v l c :=
  ⟨owns_base h.owns hb, fun M hM hl => by
    obtain ⟨ks, k1, k2, k3⟩ := h.kids M hM hl
    exact ⟨ks, k1, fun u hu => ⟨(k2 u hu).1, (k2 u hu).2.mono fun b hb => ⟨hb.1, hS b hb.2⟩⟩, k3⟩⟩
theorem same_mix {D D' lo : Nat} {S : Nat → Prop} {W : World} {v v' : Value} {c : List Nd} (h : HoldsT D lo W v c) (h' : HoldsS D' S W v' c) (hD : D + D' ≤ 2199023255552 := by omega) :
    Calls Try.prog 18 #[v, v'] W fun e W' => e = .returned (.bool true) ∧ Below W.heap.size W W' := by
  obtain ⟨t, rfl, hT, -, hc⟩ := h (D + D') (by omega)
  obtain ⟨t', rfl, hT', -, hc'⟩ := h' (D + D') (by omega) hD
  have hT := hT hD
  have hs := same_any _ t t' W hT hT'
  rw [sameT_code hT.wl hT'.wl, hc, hc'] at hs
  simpa using hs
end Go.Proofs.Ytcdgmjpgmiehcaa

/- hornref.Is, hornref.Body. -/
namespace Go.Proofs.Ytcdgmjpgmiehcaa
open Go.RowKit Go.Shelf

/-- An atom or a compound of a name with so many Args? -/
def isB (x : TV) (s : List UInt8) (n : Int) : Bool := (decide (x.k = 3) || decide (x.k = 4)) && (decide (x.s.toList = s) && ((x.len : Int) == n))
set_option maxHeartbeats 1000000 in
theorem ris_any (x : TV) (s : ByteArray) (n : Int) (w : World) : Calls Try.prog 14 #[x.val, .string s, .int .i64 n] w fun e W' => e = .returned (.bool (isB x s.toList n)) ∧ Below w.heap.size w W' := by
  obtain ⟨k, N, xs, a, len, cap⟩ := x
  simp only [TV.val]
  by_cases h3 : k = 3
  · subst h3
    go_enter Try.func14, Try.ntmps14
    go_wp2
    all_goals go_ret
    all_goals refine ⟨?_, (Below.refl _ w).alloc (Nat.le_refl _) _⟩
    all_goals simp_all [isB]
  · have h3' : (k == 3) = false := by simp [h3]
    by_cases h4 : k = 4
    · subst h4
      go_enter Try.func14, Try.ntmps14
      go_wp2
      all_goals go_ret
      all_goals refine ⟨?_, (Below.refl _ w).alloc (Nat.le_refl _) _⟩
      all_goals simp_all [isB]
    · have h4' : (k == 4) = false := by simp [h4]
      have HV : Hid (isB ⟨k, N, xs, a, len, cap⟩ s.toList n = false) := by show isB _ _ _ = _; simp [isB, h3, h4]
      clear h3 h4
      go_enter Try.func14, Try.ntmps14
      go_wp2
      all_goals go_ret
      all_goals exact ⟨by rw [HV.out]; rfl, (Below.refl _ w).alloc (Nat.le_refl _) _⟩

/-- Any block. -/
def anyB (_ : Nat) : Prop := True
theorem holdsS_one {D : Nat} {S : Nat → Prop} {W : World} {x : TV} {cx : List Nd} (hx : HoldsS D S W x.val cx) {b : Nat} (hS : S b)
    (hb : W.heap[b]? = some (.cells #[.int .i64 x.k, .int .i64 x.N, .string x.s, .slice x.a x.len x.cap] 24 (0, 0))) (s : ByteArray) (hs : s.size ≤ 9223372036854775807) :
    HoldsS (D + 1) S W (compV s (some ⟨b, 0, none⟩) 1 1).val ((4, 0, s.toList, 1) :: cx) := fun m hm hlm => by
  obtain ⟨M, rfl⟩ : ∃ M, m = M + 1 := ⟨m - 1, by omega⟩
  obtain ⟨t, h1, h2, h3, h4⟩ := hx M (by omega) (by omega)
  have hxt := tv_inj h1
  have hlt := (Array.getElem?_eq_some_iff.1 hb).1
  refine ⟨((compV s (some ⟨b, 0, none⟩) 1 1, [t]) : TV × List (Tm M)), rfl, ⟨rfl, ⟨by simp [Tm.tv, compV], by simp [Tm.tv, compV], hlm⟩, hs, .inr ⟨b, 0, rfl, hlt, fun j u hu => ?_⟩⟩, ⟨.inr ⟨b, 0, rfl, hS⟩, fun u hu => ?_⟩, ?_⟩
  · have hj : j = 0 ∧ u = t := by
      match j, hu with
      | 0, hu => exact ⟨rfl, by simpa [Tm.kids] using hu.symm⟩
      | k + 1, hu => simp [Tm.kids] at hu
    obtain ⟨rfl, rfl⟩ := hj
    refine ⟨?_, h2⟩
    rw [← hxt]
    refine ⟨?_, ?_, ?_, ?_⟩ <;> simp [World.cell?, hb]
  · have : u = t := by simpa [Tm.kids] using hu
    subst this
    exact h3
  · rw [code_succ]
    simp [h4, TV.nd, compV]
theorem holdsS_two {D : Nat} {S : Nat → Prop} {W : World} {x y : TV} {cx cy : List Nd} (hx : HoldsS D S W x.val cx) (hy : HoldsS D S W y.val cy) {b : Nat} (hS : S b)
    (hb : W.heap[b]? = some (.cells #[.int .i64 x.k, .int .i64 x.N, .string x.s, .slice x.a x.len x.cap, .int .i64 y.k, .int .i64 y.N, .string y.s, .slice y.a y.len y.cap] 24 (0, 0))) (s : ByteArray) (hs : s.size ≤ 9223372036854775807) :
    HoldsS (D + 1) S W (compV s (some ⟨b, 0, none⟩) 2 2).val ((4, 0, s.toList, 2) :: (cx ++ cy)) := fun m hm hlm => by
  obtain ⟨M, rfl⟩ : ∃ M, m = M + 1 := ⟨m - 1, by omega⟩
  obtain ⟨t, h1, h2, h3, h4⟩ := hx M (by omega) (by omega)
  obtain ⟨u, k1, k2, k3, k4⟩ := hy M (by omega) (by omega)
  have hxt := tv_inj h1
  have hyt := tv_inj k1
  have hlt := (Array.getElem?_eq_some_iff.1 hb).1
  refine ⟨((compV s (some ⟨b, 0, none⟩) 2 2, [t, u]) : TV × List (Tm M)), rfl, ⟨rfl, ⟨by simp [Tm.tv, compV], by simp [Tm.tv, compV], hlm⟩, hs, .inr ⟨b, 0, rfl, hlt, fun j v hv => ?_⟩⟩, ⟨.inr ⟨b, 0, rfl, hS⟩, fun v hv => ?_⟩, ?_⟩
  · have hj : (j = 0 ∧ v = t) ∨ (j = 1 ∧ v = u) := by
      match j, hv with
      | 0, hv => exact .inl ⟨rfl, by simpa [Tm.kids] using hv.symm⟩
      | 1, hv => exact .inr ⟨rfl, by simpa [Tm.kids] using hv.symm⟩
      | k + 2, hv => simp [Tm.kids] at hv
    rcases hj with ⟨rfl, rfl⟩ | ⟨rfl, rfl⟩
    · refine ⟨?_, h2⟩
      rw [← hxt]
      refine ⟨?_, ?_, ?_, ?_⟩ <;> simp [World.cell?, hb]
    · refine ⟨?_, k2⟩
      rw [← hyt]
      refine ⟨?_, ?_, ?_, ?_⟩ <;> simp [World.cell?, hb]
  · have : v = t ∨ v = u := by simpa [Tm.kids] using hv
    rcases this with rfl | rfl
    · exact h3
    · exact k3
  · rw [code_succ]
    simp [h4, k4, TV.nd, compV]
theorem mix_set4 {D ns lo : Nat} {W : World} {v : Value} {c : List Nd} (h : HoldsS D (Mix ns lo) W v c) {b : Nat} (h1 : ns ≤ b) (h2 : b < lo) (o : Nat) (x : TV) : HoldsS D (Mix ns lo) (set4 W b o x) v c := fun m hm hlm => by
  obtain ⟨t, k1, k2, k3, k4⟩ := h m hm hlm
  exact ⟨t, k1, by rw [set4_size]; exact k2.fromS (fun q hq => set4_other W b o x (by unfold Mix at hq; omega)) k3, k3, k4⟩
theorem mix_mono {D D' ns lo lo' : Nat} {W : World} {v : Value} {c : List Nd} (h : HoldsS D (Mix ns lo) W v c) (hD : D ≤ D') (hl : lo' ≤ lo) : HoldsS D' (Mix ns lo') W v c := h.mono hD fun b hb => by unfold Mix at hb ⊢; omega
/-- A term that was handed in, as one that shares memory. -/
theorem mix_of {n ns : Nat} {W : World} {t : Tm n} (hT : IsT ns W t) (hns : ns ≤ W.heap.size) (lo : Nat) : HoldsS n (Mix ns lo) W t.tv.val (code t) :=
  holdsS_of (hT.mono hns) (hT.blk.mono fun _ h => .inl h)

/-- `,`, `;` and `->` of two. -/
def junct (x : TV) : Bool := isB x [44] 2 || (isB x [59] 2 || isB x [45, 62] 2)
def callL : List UInt8 := [99, 97, 108, 108]
def bodyJ (s : List UInt8) : List (Option (List Nd)) → Option (List Nd)
  | [some x, some y] => some ((4, 0, s, 2) :: (x ++ y))
  | _ => none
/-- The code of a body. -/
def bodyC : {n : Nat} → Tm n → Option (List Nd)
  | 0, t => Empty.elim t
  | _ + 1, t => if t.tv.k = 1 then some ((4, 0, callL, 1) :: code t) else if t.tv.k = 2 then none else if junct t.tv = true then bodyJ t.tv.s.toList (t.kids.map bodyC) else some (code t)
/-- What a term's value is, by the code of a body. -/
def BodyIs (D ns lo : Nat) (W : World) (x : TV) : Option (List Nd) → Prop
  | some c => HoldsS D (Mix ns lo) W x.val c
  | none => x = noTerm
def BSays (D ns lo : Nat) (r : Option (List Nd)) (e : Ending) (W' : World) : Prop := ∃ x : TV, e = .returned (.tuple #[x.val, .bool r.isSome]) ∧ BodyIs D ns lo W' x r

theorem callL_eq : (⟨#[99, 97, 108, 108]⟩ : ByteArray).toList = callL := by decide +kernel
end Go.Proofs.Ytcdgmjpgmiehcaa

