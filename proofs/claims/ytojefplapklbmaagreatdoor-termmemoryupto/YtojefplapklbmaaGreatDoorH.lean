import Derived.Test.YtojefplapklbmaaGreatDoorF
import Derived.Test.YtojefplapklbmaaGreatDoorDs
/- The contracts of term.checkAll and term.Compare: the first answers 0 where all that it is handed are terms, else 2; the second the order of two terms. -/
namespace Go.Proofs.YtojefplapklbmaaGreatDoor
open Go.RowKit Go.Shelf

/-- What checkAll answers. -/
def chkL {n : Nat} (ts : List (Tm n)) : Int := if ts.all okT then 0 else 2
theorem chkL_yes {n : Nat} {ts : List (Tm n)} (h : ts.all okT = true) : chkL ts = 0 := if_pos h
theorem chkL_no {n : Nat} {ts : List (Tm n)} (h : ts.all okT = false) : chkL ts = 2 := if_neg (by simp [h])
theorem chk_zero {n : Nat} {t : Tm n} : chk t = 0 ↔ okT t = true := by
  unfold chk; split <;> simp_all
theorem all_no {n : Nat} {ts : List (Tm n)} {j : Nat} {u : Tm n} (h : ts[j]? = some u) (hu : okT u = false) : ts.all okT = false := by
  rw [List.all_eq_false]
  exact ⟨u, List.mem_of_getElem? h, by simp [hu]⟩

set_option maxRecDepth 100000 in
set_option maxHeartbeats 1000000 in
theorem checkAll_any {n : Nat} (ts : List (Tm n)) (a : Option Addr) (len cap : Nat) (w : World) (hlen : len = ts.length) (hmax : len ≤ 9223372036854775807)
    (hts : ts = [] ∨ ∃ b off, a = some ⟨b, off, none⟩ ∧ b < w.heap.size ∧ ∀ j u, ts[j]? = some u → cellsAt w b (off + j * 4) u.tv ∧ IsT w.heap.size w u) :
    Calls Tryz.prog 62 #[.slice a len cap] w fun e W' => e = .returned (.int .i64 (chkL ts)) ∧ Below w.heap.size w W' := by
  have hl1 : len ≤ ts.length := by omega
  have hl2 : ts.length ≤ len := by omega
  clear hlen
  go_enter Tryz.func62, Tryz.ntmps62
  go_wp2_with fail
  go_loopw [8] (fun i wr => ∃ j : Nat, j ≤ len ∧ i = .int .i64 j ∧ (ts.take j).all okT = true ∧ Below w.heap.size w wr) (fun i _ => len - (intOf i).toNat)
  case atStart => exact ⟨0, Nat.zero_le _, rfl, by simp, Below.refl _ _⟩
  case round =>
    obtain ⟨j, hj, rfl, ho, hb⟩ := hrel
    have HO := hide ho
    clear ho
    by_cases hlt : j < len
    · obtain ⟨u, b, off, hu, rfl, ⟨c0, c1, c2, c3⟩, hT, hbk⟩ := kid_at hts hb hlt hl1
      have hc : Calls Tryz.prog 6 #[.agg #[.int .i64 u.tv.k, .int .i64 u.tv.N, .string u.tv.s, .slice u.tv.a u.tv.len u.tv.cap]] (wr.alloc (.cells #[.int .i64 u.tv.k, .int .i64 u.tv.N, .string u.tv.s, .slice u.tv.a u.tv.len u.tv.cap] 24)) fun e W2 => e = .returned (.int .i64 (chk u)) ∧ Below wr.heap.size wr W2 :=
        (check_any u _ ((hT.below ((Below.refl _ wr).alloc (Nat.le_refl _) _)).mono (by simp))).mono fun e W2 h => ⟨h.1, ((Below.refl _ wr).alloc (Nat.le_refl _) _).trans (h.2.mono (by simp))⟩
      have hstop := all_no hu
      have hnext := take_all ts j u hu
      rw [unhide HO, Bool.true_and] at hnext
      have hcz := @chk_zero _ u
      have hcn := @chk_no _ u
      clear hT hts hu
      generalize chk u = d at *
      generalize okT u = o at *
      have HN := hide hnext
      have HS := hide hstop
      clear hnext hstop
      cases o with
      | true =>
        have hd : d = 0 := hcz.2 rfl
        have hd' : (d != 0) = false := by simp [hd]
        clear hd hcz hcn
        go_wp2_with (go_at_call 6; refine hc.mono ?_; clear hc; rintro e W2 ⟨rfl, hb2⟩)
        go_roundw
        case rel => exact ⟨j + 1, by omega, by go_num, unhide HN, hb.trans (hb2.mono hb.size)⟩
        case measure => simp [intOf]; omega
      | false =>
        have hd : d = 2 := hcn rfl
        clear hcz hcn
        subst hd
        go_wp2_with (go_at_call 6; refine hc.mono ?_; clear hc; rintro e W2 ⟨rfl, hb2⟩)
        go_ret
        exact ⟨ret_int (chkL_no ((unhide HS) (by simp))).symm, hb.trans (hb2.mono hb.size)⟩
    · have ht : ts.take j = ts := List.take_of_length_le (by omega)
      have HT := hide ht
      clear ht hts
      go_wp2_with fail
      go_ret
      exact ⟨ret_int (by have h := unhide HO; rw [unhide HT] at h; rw [chkL_yes h]), hb⟩

/-- Two terms, one behind the other in a new block. -/
theorem pair_lies {n : Nat} {x y : Tm n} {w : World} (hx : IsT w.heap.size w x) (hy : IsT w.heap.size w y) (W : World) (hb : Below w.heap.size w W) :
    let W' := W.alloc (.cells #[.int .i64 x.tv.k, .int .i64 x.tv.N, .string x.tv.s, .slice x.tv.a x.tv.len x.tv.cap, .int .i64 y.tv.k, .int .i64 y.tv.N, .string y.tv.s, .slice y.tv.a y.tv.len y.tv.cap] 24)
    ([x, y] : List (Tm n)) = [] ∨ ∃ b off, some (⟨W.heap.size, 0, none⟩ : Addr) = some ⟨b, off, none⟩ ∧ b < W'.heap.size ∧ ∀ j u, ([x, y] : List (Tm n))[j]? = some u → cellsAt W' b (off + j * 4) u.tv ∧ IsT W'.heap.size W' u := by
  intro W'
  have hb' : Below w.heap.size w W' := hb.alloc hb.size _
  have hsz : W'.heap.size = W.heap.size + 1 := by simp [W']
  have hle : w.heap.size ≤ W'.heap.size := hb'.size
  refine .inr ⟨W.heap.size, 0, rfl, by omega, fun j u hu => ?_⟩
  match j, hu with
  | 0, hu =>
    simp at hu; subst hu
    exact ⟨⟨by simp [W'], by simp [W'], by simp [W'], by simp [W']⟩, (hx.below hb').mono hle⟩
  | 1, hu =>
    simp at hu; subst hu
    exact ⟨⟨by simp [W'], by simp [W'], by simp [W'], by simp [W']⟩, (hy.below hb').mono hle⟩
  | j + 2, hu => simp at hu

/-- Two boxes and a pair of terms laid, and a callee that keeps what lay: what the boxes hold behind it. -/
theorem boxes_kept {x y : TV} {w W2 : World} {o : Obj} (hb : Below (((w.alloc (.cells #[.int .i64 x.k, .int .i64 x.N, .string x.s, .slice x.a x.len x.cap] 24)).alloc (.cells #[.int .i64 y.k, .int .i64 y.N, .string y.s, .slice y.a y.len y.cap] 24)).alloc o).heap.size (((w.alloc (.cells #[.int .i64 x.k, .int .i64 x.N, .string x.s, .slice x.a x.len x.cap] 24)).alloc (.cells #[.int .i64 y.k, .int .i64 y.N, .string y.s, .slice y.a y.len y.cap] 24)).alloc o) W2) :
    Below w.heap.size w W2 ∧ BoxT W2 w.heap.size x ∧ BoxT W2 (w.heap.size + 1) y := by
  have hs2 : (((w.alloc (.cells #[.int .i64 x.k, .int .i64 x.N, .string x.s, .slice x.a x.len x.cap] 24)).alloc (.cells #[.int .i64 y.k, .int .i64 y.N, .string y.s, .slice y.a y.len y.cap] 24)).alloc o).heap.size = w.heap.size + 3 := by simp
  rw [hs2] at hb
  have b1 := ((BoxT.new w x).alloc (.cells #[.int .i64 y.k, .int .i64 y.N, .string y.s, .slice y.a y.len y.cap] 24)).alloc o
  have b2 := (BoxT.new (w.alloc (.cells #[.int .i64 x.k, .int .i64 x.N, .string x.s, .slice x.a x.len x.cap] 24)) y).alloc o
  rw [World.size_alloc] at b2
  exact ⟨((((Below.refl _ w).alloc (Nat.le_refl _) _).alloc (by simp) _).alloc (by simp; omega) _).trans (hb.mono (by omega)), (hb.block _ (by omega)).trans b1, (hb.block _ (by omega)).trans b2⟩

/-- checkAll of two terms that a call has boxed. -/
theorem checkTwo {n : Nat} (x y : Tm n) (w : World) (hx : IsT w.heap.size w x) (hy : IsT w.heap.size w y) :
    Calls Tryz.prog 62 #[.slice (some ⟨w.heap.size + 1 + 1, 0, none⟩) 2 2] (((w.alloc (.cells #[.int .i64 x.tv.k, .int .i64 x.tv.N, .string x.tv.s, .slice x.tv.a x.tv.len x.tv.cap] 24)).alloc (.cells #[.int .i64 y.tv.k, .int .i64 y.tv.N, .string y.tv.s, .slice y.tv.a y.tv.len y.tv.cap] 24)).alloc (.cells #[.int .i64 x.tv.k, .int .i64 x.tv.N, .string x.tv.s, .slice x.tv.a x.tv.len x.tv.cap, .int .i64 y.tv.k, .int .i64 y.tv.N, .string y.tv.s, .slice y.tv.a y.tv.len y.tv.cap] 24)) fun e W2 => e = .returned (.int .i64 (chkL [x, y])) ∧ Below w.heap.size w W2 ∧ BoxT W2 w.heap.size x.tv ∧ BoxT W2 (w.heap.size + 1) y.tv := by
  have hp := pair_lies hx hy ((w.alloc (.cells #[.int .i64 x.tv.k, .int .i64 x.tv.N, .string x.tv.s, .slice x.tv.a x.tv.len x.tv.cap] 24)).alloc (.cells #[.int .i64 y.tv.k, .int .i64 y.tv.N, .string y.tv.s, .slice y.tv.a y.tv.len y.tv.cap] 24)) (((Below.refl _ w).alloc (Nat.le_refl _) _).alloc (by simp) _)
  simp only [World.size_alloc] at hp
  have h := checkAll_any [x, y] (some ⟨w.heap.size + 1 + 1, 0, none⟩) 2 2 (((w.alloc (.cells #[.int .i64 x.tv.k, .int .i64 x.tv.N, .string x.tv.s, .slice x.tv.a x.tv.len x.tv.cap] 24)).alloc (.cells #[.int .i64 y.tv.k, .int .i64 y.tv.N, .string y.tv.s, .slice y.tv.a y.tv.len y.tv.cap] 24)).alloc (.cells #[.int .i64 x.tv.k, .int .i64 x.tv.N, .string x.tv.s, .slice x.tv.a x.tv.len x.tv.cap, .int .i64 y.tv.k, .int .i64 y.tv.N, .string y.tv.s, .slice y.tv.a y.tv.len y.tv.cap] 24)) rfl (by omega) (by simpa only [World.size_alloc] using hp)
  exact h.mono fun e W2 h => ⟨h.1, boxes_kept h.2⟩

set_option maxRecDepth 100000 in
set_option maxHeartbeats 1000000 in
theorem compare_any {n : Nat} (x y : Tm n) (w : World) (hx : IsT w.heap.size w x) (hy : IsT w.heap.size w y) (ox : okT x = true) (oy : okT y = true) :
    Calls Tryz.prog 43 #[x.tv.val, y.tv.val] w fun e W' => e = .returned (.tuple #[.int .i64 (ordT x y), .int .i64 0]) ∧ Below w.heap.size w W' := by
  have hc := checkTwo x y w hx hy
  have h0 : chkL [x, y] = 0 := chkL_yes (by simp [ox, oy])
  rw [h0] at hc
  clear h0 ox oy
  have HX := hide hx
  have HY := hide hy
  clear hx hy
  simp only [TV.val]
  go_enter Tryz.func43, Tryz.ntmps43
  go_wp2_with (go_at_call 62; refine hc.mono ?_; clear hc; rintro e W2 ⟨rfl, hb2, bx, bby⟩; have c0 := bx.c0; have c1 := bx.c1; have c2 := bx.c2; have c3 := bx.c3; have d0 := bby.c0; have d1 := bby.c1; have d2 := bby.c2; have d3 := bby.c3)
  have ho := order_any n x y W2 (((unhide HX).below hb2).mono hb2.size) (((unhide HY).below hb2).mono hb2.size)
  simp only [TV.val] at ho
  refine ho.mono ?_
  rintro e W3 ⟨rfl, hb3⟩
  go_wp2_with fail
  go_ret2
  exact ⟨rfl, hb2.trans (hb3.mono hb2.size)⟩

set_option maxRecDepth 100000 in
set_option maxHeartbeats 1000000 in
theorem compare_no {n : Nat} (x y : Tm n) (w : World) (hx : IsT w.heap.size w x) (hy : IsT w.heap.size w y) (ox : (okT x && okT y) = false) :
    Calls Tryz.prog 43 #[x.tv.val, y.tv.val] w fun e W' => e = .returned (.tuple #[.int .i64 0, .int .i64 2]) ∧ Below w.heap.size w W' := by
  have hc := checkTwo x y w hx hy
  have h0 : chkL [x, y] = 2 := chkL_no (by simpa using ox)
  rw [h0] at hc
  clear h0 ox hx hy
  simp only [TV.val]
  go_enter Tryz.func43, Tryz.ntmps43
  go_wp2_with (go_at_call 62; refine hc.mono ?_; clear hc; rintro e W2 ⟨rfl, hb2, bx, bby⟩)
  go_ret2
  exact ⟨rfl, hb2⟩
end Go.Proofs.YtojefplapklbmaaGreatDoor

