import Derived.Test.YtiigkiemkhdclaaGreatDoorEs
import Derived.Test.YtiigkiemkhdclaaGreatDoorAs
import Derived.Test.YtiigkiemkhdclaaGreatDoorRows
import Derived.Test.YtiigkiemkhdclaaGreatDoorJs
/- The contracts of term.copyOf, of a binary search for a bind (term.find), and of what a variable becomes by a list of binds. -/
namespace Go.Proofs.YtiigkiemkhdclaaGreatDoor
open Go.RowKit Go.Shelf

theorem empty_list : (⟨#[]⟩ : ByteArray).toList = [] := by rw [ByteArray.toList_eq]
theorem varV_nd (N : Int) : (varV N).nd = varNd N := by simp only [varV, varNd, TV.nd, empty_list]
theorem variable_becomes (w : World) : Becomes 66 #[] (fun N => [varNd N]) 1 w := fun N W _ _ _ =>
  (variable_any N W).mono fun _ W' h => ⟨_, h.1, h.2, by have hh := holds_leaf (varV N) rfl (by simp [varV, ByteArray.size]) W.heap.size W'; rw [varV_nd] at hh; exact hh⟩

theorem sub_var {n : Nat} {t : Tm n} (h : okT t = true) : (code t).flatMap (subN fun N => [varNd N]) = code t := by
  have key : ∀ l : List TV, l.all TV.ok = true → (l.map TV.nd).flatMap (subN fun N => [varNd N]) = l.map TV.nd := by
    intro l
    induction l with
    | nil => intro _; rfl
    | cons x l ih =>
      intro hl
      rw [List.all_cons, Bool.and_eq_true] at hl
      rw [List.map_cons, List.flatMap_cons, ih hl.2]
      have : subN (fun N => [varNd N]) x.nd = [x.nd] := by
        unfold subN
        by_cases hk : x.nd.1 = 1
        · rw [if_pos hk]
          have hw := hl.1
          unfold TV.ok at hw
          rcases wm_cases hw with ⟨h1, _, _, h4, h5⟩ | ⟨h1, _⟩ | ⟨h1, _⟩
          · simp [varNd, TV.nd, h1, h4, h5]
          · simp only [TV.nd] at hk; omega
          · simp only [TV.nd] at hk; omega
        · rw [if_neg hk]
      rw [this]; rfl
  exact key (parts t) h

set_option maxRecDepth 100000 in
set_option maxHeartbeats 1000000 in
/-- term.copyOf. -/
theorem copy_any {n : Nat} (t : Tm n) (W : World) (hT : IsT W.heap.size W t) (hok : okT t = true) :
    Calls Tryz.prog 68 #[t.tv.val] W fun e W' => ∃ x : TV, e = .returned x.val ∧ Below W.heap.size W W' ∧ HoldsT (n + 1) W.heap.size W' x.val (code t) := by
  have hB : Below W.heap.size W ((W.alloc (.cells #[.int .i64 t.tv.k, .int .i64 t.tv.N, .string t.tv.s, .slice t.tv.a t.tv.len t.tv.cap] 24)).alloc (.cells #[.int .i64 0, .int .i64 0, .string ⟨#[]⟩, .slice none 0 0] 24)) := ((Below.refl _ W).alloc (Nat.le_refl _) _).alloc (by simp) _
  have hr := replace_any 66 #[] (fun N => [varNd N]) 1 ((W.alloc (.cells #[.int .i64 t.tv.k, .int .i64 t.tv.N, .string t.tv.s, .slice t.tv.a t.tv.len t.tv.cap] 24)).alloc (.cells #[.int .i64 0, .int .i64 0, .string ⟨#[]⟩, .slice none 0 0] 24)) (Nat.le_refl _) (enters_of Tryz.func66 (by kernel_rfl) rfl) (variable_becomes _) n t _ (Below.refl _ _) ((hT.below hB).mono hB.size) hok
  rw [sub_var hok] at hr
  clear hT hok
  simp only [TV.val] at hr ⊢
  go_enter Tryz.func68, Tryz.ntmps68
  go_wp2_with fail
  refine hr.mono ?_
  clear hr
  rintro e W1 ⟨v, rfl, hb1, hv⟩
  obtain ⟨t1, ht1, -⟩ := hv _ (Nat.le_refl _)
  subst ht1
  have hbk := hb1.block (W.heap.size + 1) (by simp)
  have hnew := World.alloc_heap_new (W.alloc (.cells #[.int .i64 t.tv.k, .int .i64 t.tv.N, .string t.tv.s, .slice t.tv.a t.tv.len t.tv.cap] 24)) (.cells #[.int .i64 0, .int .i64 0, .string ⟨#[]⟩, .slice none 0 0] 24)
  rw [World.size_alloc] at hnew
  obtain ⟨⟨z0, z1, z2, z3⟩, y0, y1, y2, y3⟩ := zbox_kept (hbk.trans hnew)
  have hb2 := below_two hb1
  have hsz : ((W.alloc (.cells #[.int .i64 t.tv.k, .int .i64 t.tv.N, .string t.tv.s, .slice t.tv.a t.tv.len t.tv.cap] 24)).alloc (.cells #[.int .i64 0, .int .i64 0, .string ⟨#[]⟩, .slice none 0 0] 24)).heap.size = W.heap.size + 2 := by simp
  rw [hsz] at hv
  have hfin : HoldsT (n + 1) W.heap.size (set4 W1 (W.heap.size + 1) 0 t1.tv) t1.tv.val (code t) := (holds_set4 hv (by omega) 0 t1.tv).mono (Nat.le_refl _) (by omega)
  have hbf : Below W.heap.size W (set4 W1 (W.heap.size + 1) 0 t1.tv) := set4_below hb2 (by omega) 0 t1.tv
  have HF := hide hfin
  have HB := hide hbf
  clear hfin hbf hsz hv hb1 hb2 hbk hnew hB
  simp only [TV.val]
  go_wp2_with fail
  exact bodyPost_ret (v := t1.tv.val) (by simp [results, Tryz.results68, go_sem, TV.val, z0, z1, z2, z3]) rfl ⟨t1.tv, rfl, unhide HB, unhide HF⟩

/-- A list of binds in memory. -/
def IsL (n₀ : Nat) (W : World) {n : Nat} (a : Option Addr) (len : Nat) (bs : List (Int × Tm n)) : Prop :=
  len = bs.length ∧ len ≤ 1152921504606846976 ∧ (bs = [] ∨ ∃ b off, a = some ⟨b, off, none⟩ ∧ b < n₀ ∧ ∀ j p, bs[j]? = some p → W.cell? ⟨b, off + j * 5, none⟩ = some (.int .i64 p.1) ∧ cellsAt W b (off + j * 5 + 1) p.2.tv ∧ IsT n₀ W p.2)
theorem IsL.below {n₀ : Nat} {A B : World} (h : Below n₀ A B) {n : Nat} {a : Option Addr} {len : Nat} {bs : List (Int × Tm n)} (hl : IsL n₀ A a len bs) : IsL n₀ B a len bs := by
  obtain ⟨h1, h2, h3⟩ := hl
  refine ⟨h1, h2, ?_⟩
  rcases h3 with h3 | ⟨b, off, ha, hb, hk⟩
  · exact .inl h3
  · refine .inr ⟨b, off, ha, hb, fun j p hp => ?_⟩
    obtain ⟨k1, k2, k3⟩ := hk j p hp
    exact ⟨(h.cell (p := ⟨b, off + j * 5, none⟩) hb).trans k1, k2.kept (h.block b hb), k3.below h⟩
theorem IsL.mono {n₀ n₁ : Nat} (hle : n₀ ≤ n₁) {A : World} {n : Nat} {a : Option Addr} {len : Nat} {bs : List (Int × Tm n)} (hl : IsL n₀ A a len bs) : IsL n₁ A a len bs := by
  obtain ⟨h1, h2, h3⟩ := hl
  refine ⟨h1, h2, ?_⟩
  rcases h3 with h3 | ⟨b, off, ha, hb, hk⟩
  · exact .inl h3
  · exact .inr ⟨b, off, ha, by omega, fun j p hp => by
      obtain ⟨k1, k2, k3⟩ := hk j p hp
      exact ⟨k1, k2, k3.mono hle⟩⟩

set_option maxHeartbeats 400000 in
/-- find's closure. -/
theorem find1_any (V N : Int) (x : TV) (w : World) : Calls Tryz.prog 100 #[.agg #[.int .i64 V, .int .i64 x.k, .int .i64 x.N, .string x.s, .slice x.a x.len x.cap], .int .i64 N] w fun e W' => e = .returned (.int .i64 (cmp3 V N)) ∧ Below w.heap.size w W' := by
  have h := cmpl_any V N (w.alloc (.cells #[.int .i64 V, .int .i64 x.k, .int .i64 x.N, .string x.s, .slice x.a x.len x.cap] 82))
  go_enter Tryz.func100, Tryz.ntmps100
  go_wp2_with (go_at_call 95; refine h.mono ?_; rintro e w' ⟨rfl, rfl⟩)
  go_ret
  exact ⟨rfl, (Below.refl _ w).alloc (Nat.le_refl _) _⟩

/-- The j-th bind, in a later world. -/
theorem bind_at {n : Nat} {w wr : World} {a : Option Addr} {len : Nat} {bs : List (Int × Tm n)} (hl : IsL w.heap.size w a len bs) (hbw : Below w.heap.size w wr) {j : Nat} (hj : j < len) :
    ∃ V u b off, bs[j]? = some (V, u) ∧ a = some ⟨b, off, none⟩ ∧ b < w.heap.size ∧ IsT wr.heap.size wr u ∧ wr.cell? ⟨b, off + j * 5, none⟩ = some (.int .i64 V) ∧ wr.cell? ⟨b, off + j * 5 + 1, none⟩ = some (.int .i64 u.tv.k) ∧ wr.cell? ⟨b, off + j * 5 + 2, none⟩ = some (.int .i64 u.tv.N) ∧ wr.cell? ⟨b, off + j * 5 + 3, none⟩ = some (.string u.tv.s) ∧ wr.cell? ⟨b, off + j * 5 + 4, none⟩ = some (.slice u.tv.a u.tv.len u.tv.cap) := by
  obtain ⟨h1, h2, h3⟩ := hl.below hbw
  obtain ⟨p, hp⟩ : ∃ p, bs[j]? = some p := ⟨bs[j]'(by omega), List.getElem?_eq_getElem (by omega)⟩
  have hne : bs ≠ [] := by rintro rfl; simp at hp
  obtain ⟨b, off, ha, hb, hk⟩ := h3.resolve_left hne
  obtain ⟨k1, k2, k3⟩ := hk j p hp
  exact ⟨p.1, p.2, b, off, hp, ha, hb, k3.mono hbw.size, k1, k2.1, k2.2.1, k2.2.2.1, k2.2.2.2⟩

/-- Rising by Var. -/
def Rises {n : Nat} (bs : List (Int × Tm n)) : Prop := ∀ (i j : Nat) (p q : Int × Tm n), bs[i]? = some p → bs[j]? = some q → i < j → p.1 < q.1

set_option maxRecDepth 100000 in
set_option maxHeartbeats 1000000 in
theorem search_any {n : Nat} (bs : List (Int × Tm n)) (a : Option Addr) (len cap : Nat) (N : Int) (w : World) (hl : IsL w.heap.size w a len bs) (hri : Rises bs) :
    Calls Tryz.prog 99 #[.slice a len cap, .int .i64 N, .func (.func 100) #[] #[]] w fun e W' => ∃ (pos : Nat) (f : Bool), e = .returned (.tuple #[.int .i64 pos, .bool f]) ∧ Below w.heap.size w W' ∧ (f = true → ∃ p, bs[pos]? = some p ∧ p.1 = N) ∧ (f = false → ∀ p ∈ bs, p.1 ≠ N) := by
  have e41 : ∀ args w, (callFunc 100 args).run Tryz.prog w = .ok (.enter 100 args) w := enters_of Tryz.func100 (by kernel_rfl) rfl
  have h1 := hl.1
  have h2 := hl.2.1
  have hl1 : len ≤ bs.length := by omega
  have hl2 : bs.length ≤ len := by omega
  have HL := hide hl
  have HRI := hide hri
  clear h1 hl hri
  go_enter Tryz.func99, Tryz.ntmps99
  go_wp2_with fail
  go_loopw [9, 10] (fun i j wr => ∃ p q : Nat, p ≤ q ∧ q ≤ len ∧ i = .int .i64 p ∧ j = .int .i64 q ∧ Below w.heap.size w wr ∧ (∀ k z, bs[k]? = some z → k < p → z.1 < N) ∧ (∀ k z, bs[k]? = some z → q ≤ k → N ≤ z.1)) (fun i j _ => (intOf j).toNat - (intOf i).toNat)
  case atStart => exact ⟨0, len, by omega, by omega, rfl, rfl, Below.refl _ _, fun k z _ h => by omega, fun k z hz h => by have := (List.getElem?_eq_some_iff.1 hz).1; omega⟩
  case round =>
    obtain ⟨p, q, hpq, hq, rfl, rfl, hb, i1, i2⟩ := hrel
    have I1 := hide i1
    have I2 := hide i2
    clear i1 i2
    by_cases hlt : p < q
    · obtain ⟨h, hh, hp, hq'⟩ : ∃ h : Nat, ((p : Int) + (q : Int)) / 2 = (h : Int) ∧ p ≤ h ∧ h < q := ⟨(p + q) / 2, by omega, by omega, by omega⟩
      obtain ⟨V, u, b, off, hu, rfl, hbk, hT, c0, c1, c2, c3, c4⟩ := bind_at (unhide HL) hb (j := h) (by omega)
      have hf := find1_any V N u.tv wr
      have hh1 : (h : Int) < len := by omega
      have HU := hide hu
      clear hT hu
      by_cases hc : V < N
      · have hc' : cmp3 V N = -1 := (cmp3_lt hc).symm
        rw [hc'] at hf
        clear hc'
        go_wp2_with fail
        refine hf.mono ?_
        clear hf
        rintro e W2 ⟨rfl, hb2⟩
        go_wp2_with fail
        go_roundw
        case rel => exact ⟨h + 1, q, by omega, by omega, by go_num, rfl, hb.trans (hb2.mono hb.size), fun k z hz hk => by
          by_cases e : k = h
          · subst e; rw [unhide HU] at hz; cases hz; exact hc
          · have := (unhide HRI) k h z (V, u) hz (unhide HU) (by omega)
            simp at this; omega, unhide I2⟩
        case measure => simp [intOf]; omega
      · have hc' : 0 ≤ cmp3 V N := by unfold cmp3; rw [if_neg hc]; split <;> omega
        generalize cmp3 V N = r at hf hc'
        go_wp2_with fail
        refine hf.mono ?_
        clear hf
        rintro e W2 ⟨rfl, hb2⟩
        go_wp2_with fail
        go_roundw
        case rel => exact ⟨p, h, by omega, by omega, rfl, rfl, hb.trans (hb2.mono hb.size), unhide I1, fun k z hz hk => by
          by_cases e : k = h
          · subst e; rw [unhide HU] at hz; cases hz; simp; omega
          · have := (unhide HRI) h k (V, u) z (unhide HU) hz (by omega)
            simp at this; omega⟩
        case measure => simp [intOf]; omega
    · obtain rfl : p = q := by omega
      by_cases hpl : p < len
      · obtain ⟨V, u, b, off, hu, rfl, hbk, hT, c0, c1, c2, c3, c4⟩ := bind_at (unhide HL) hb (j := p) (by omega)
        have hf := find1_any V N u.tv wr
        have HU := hide hu
        clear hT hu
        have hz := @cmp3_zero V N
        have HZ := hide hz
        clear hz
        generalize cmp3 V N = r at hf HZ
        by_cases hr : r = 0
        · have hr' : (r == 0) = true := by simp [hr]
          have HR := hide hr
          clear hr
          go_wp2_with fail
          refine hf.mono ?_
          clear hf
          rintro e W2 ⟨rfl, hb2⟩
          go_wp2_with fail
          go_ret2
          exact ⟨p, true, rfl, hb.trans (hb2.mono hb.size), fun _ => ⟨_, unhide HU, (unhide HZ).1 (unhide HR)⟩, fun h => by cases h⟩
        · have hr' : (r == 0) = false := by simp [hr]
          have HR := hide hr
          clear hr
          go_wp2_with fail
          refine hf.mono ?_
          clear hf
          rintro e W2 ⟨rfl, hb2⟩
          go_wp2_with fail
          go_ret2
          refine ⟨p, false, rfl, hb.trans (hb2.mono hb.size), (fun h => by cases h), fun _ z hz => ?_⟩
          obtain ⟨k, hk⟩ := List.mem_iff_getElem?.1 hz
          by_cases e : k = p
          · subst e
            rw [unhide HU] at hk
            cases hk
            exact fun h => (unhide HR) ((unhide HZ).2 h)
          · by_cases hkp : k < p
            · have := (unhide I1) k z hk hkp; omega
            · have h1 := (unhide I2) p (V, u) (unhide HU) (by omega)
              have h2 := (unhide HRI) p k (V, u) z (unhide HU) hk (by omega)
              simp at h1 h2; omega
      · have hpl' : decide ((p : Int) < (len : Int)) = false := by simp; omega
        go_wp2_with fail
        go_ret2
        refine ⟨p, false, rfl, hb, (fun h => by cases h), fun _ z hz => ?_⟩
        obtain ⟨k, hk⟩ := List.mem_iff_getElem?.1 hz
        have hk2 := (List.getElem?_eq_some_iff.1 hk).1
        have := (unhide I1) k z hk (by omega)
        omega

set_option maxHeartbeats 400000 in
/-- term.find. -/
theorem find_any {n : Nat} (bs : List (Int × Tm n)) (a : Option Addr) (len cap : Nat) (N : Int) (w : World) (hl : IsL w.heap.size w a len bs) (hri : Rises bs) :
    Calls Tryz.prog 89 #[.slice a len cap, .int .i64 N] w fun e W' => ∃ (pos : Nat) (f : Bool), e = .returned (.tuple #[.int .i64 pos, .bool f]) ∧ Below w.heap.size w W' ∧ (f = true → ∃ p, bs[pos]? = some p ∧ p.1 = N) ∧ (f = false → ∀ p ∈ bs, p.1 ≠ N) := by
  have h := search_any bs a len cap N w hl hri
  clear hl hri
  go_enter Tryz.func89, Tryz.ntmps89
  go_wp2_with fail
  refine h.mono ?_
  clear h
  rintro e W1 ⟨pos, f, rfl, hb, h1, h2⟩
  have H1 := hide h1
  have H2 := hide h2
  clear h1 h2
  go_wp2_with fail
  go_ret2
  exact ⟨pos, f, rfl, hb, unhide H1, unhide H2⟩
end Go.Proofs.YtiigkiemkhdclaaGreatDoor

/- A list of binds that can be read as data lies in memory as IsL says, at every number of storeys from the reading's fuel on. -/
namespace Go.Proofs.YtiigkiemkhdclaaGreatDoor
open Go.RowKit Go.Joins Go.WideShapes

theorem Tryz.cells61 : Tryz.prog.cellsOf 82 = 5 := by kernel_rfl

theorem list5 {α : Type} {l : List α} (h : l.length = 5) : ∃ a b c d e, l = [a, b, c, d, e] := by
  match l, h with
  | [a, b, c, d, e], _ => exact ⟨a, b, c, d, e, rfl⟩
theorem cells5 {w : World} {base : Nat} {a : Addr} {c0 c1 c2 c3 c4 : Value} (h : w.cells? base a 5 = some [c0, c1, c2, c3, c4]) : a.spot = none ∧ w.cell? ⟨a.block, a.off, none⟩ = some c0 ∧ w.cell? ⟨a.block, a.off + 1, none⟩ = some c1 ∧ w.cell? ⟨a.block, a.off + 2, none⟩ = some c2 ∧ w.cell? ⟨a.block, a.off + 3, none⟩ = some c3 ∧ w.cell? ⟨a.block, a.off + 4, none⟩ = some c4 := by
  unfold World.cells? at h
  split at h
  · obtain ⟨b, off, spot⟩ := a
    simp [List.range_succ, List.mapM_cons, Addr.add, Option.bind_eq_some_iff] at h
    obtain ⟨h0, h1, h2, h3, h4⟩ := h
    have hs : spot = none := World.cell?_spot h0
    subst hs
    exact ⟨rfl, h0, h1, h2, h3, h4⟩
  · cases h

/-- A bind that can be read: its five cells. -/
theorem open_bind {H : Type} {enc : TypeId × Value → H} {w : World} {spare : Nat → Bool} {held : Bool} {fuel m : Nat} (hm : fuel ≤ m) {cs : List Value} {y : DataW H × List MemPlace}
    (h : DataW.trod enc Tryz.prog w 0 spare held fuel 82 cs = some y) : ∃ (V : Int) (t : Tm m), cs = [.int .i64 V, .int .i64 t.tv.k, .int .i64 t.tv.N, .string t.tv.s, .slice t.tv.a t.tv.len t.tv.cap] ∧ IsT w.heap.size w t := by
  obtain ⟨xs, n, rfl, -, hl, hxl, hfs⟩ := DataW.trod_struct Tryz.underlying82 h
  rw [Tryz.cells61] at hl
  have hx2 : xs.length = 2 := hxl
  clear hxl
  obtain ⟨v0, v1, v2, v3, v4, rfl⟩ := list5 hl
  have f0 : DataW.trod enc Tryz.prog w 0 spare held n 2 (List.take (Tryz.prog.cellsOf 2) (List.drop 0 [v0, v1, v2, v3, v4])) = xs[0]? := hfs 0 _ rfl
  have f1 : DataW.trod enc Tryz.prog w 0 spare held n 24 (List.take (Tryz.prog.cellsOf 24) (List.drop 1 [v0, v1, v2, v3, v4])) = xs[1]? := hfs 1 _ rfl
  rw [Tryz.cells2] at f0
  rw [Tryz.cells28] at f1
  simp only [List.drop_zero, List.drop_succ_cons, List.take_succ_cons, List.take_zero] at f0 f1
  clear hfs
  obtain ⟨x0, e0⟩ : ∃ x, xs[0]? = some x := ⟨xs[0]'(by omega), List.getElem?_eq_getElem (by omega)⟩
  obtain ⟨x1, e1⟩ : ∃ x, xs[1]? = some x := ⟨xs[1]'(by omega), List.getElem?_eq_getElem (by omega)⟩
  rw [e0] at f0
  rw [e1] at f1
  obtain ⟨V, g0, -, -⟩ := DataW.trod_int Tryz.underlying2 f0
  obtain ⟨t, g1, hT⟩ := open_term n n (Nat.le_refl _) m (by omega) _ _ f1
  simp only [List.cons.injEq, and_true] at g0
  subst g0
  rw [g1]
  exact ⟨V, t, rfl, hT⟩

set_option maxRecDepth 100000 in
/-- An argument that is a list of binds: from some number of storeys on it is one. -/
theorem open_binds {H : Type} {enc : TypeId × Value → H} {w : World} {r : Reach} {b0 : Nat} {spare : Nat → Bool} {held : Bool} {v : Value} {d : DataW H} {p : List MemPlace} (hv : Value.okWide Tryz.prog w r b0 32 v) (h : DataW.Trod enc Tryz.prog w 0 spare held 32 v d p) :
    ∃ a len cap, v = .slice a len cap ∧ (len = 0 ∨ ∃ es sp, d = .slice es sp ∧ es.length = len) ∧ (len ≤ 1152921504606846976 → ∃ N, ∀ m, N ≤ m → ∃ bs : List (Int × Tm m), IsL w.heap.size w a len bs) := by
  obtain ⟨a, len, cap, rfl⟩ := okWide_slice Tryz.underlying32 hv
  obtain ⟨fuel, hf⟩ := h
  refine ⟨a, len, cap, rfl, ?_⟩
  have hf' : DataW.trod enc Tryz.prog w 0 spare held fuel 32 [.slice a len cap] = some (d, p) := by simpa [Value.cells] using hf
  rcases DataW.trod_slice Tryz.underlying32 hf' with ⟨g3, -⟩ | ⟨a', len', cap', elems, rest, n', hn', g3, hd, hb, hlc, hmx, hlen, hel, -, -⟩
  · simp only [List.cons.injEq, and_true, Value.slice.injEq] at g3
    obtain ⟨rfl, rfl, rfl⟩ := g3
    exact ⟨.inl rfl, fun _ => ⟨0, fun m _ => ⟨[], rfl, by omega, .inl rfl⟩⟩⟩
  · simp only [List.cons.injEq, and_true, Value.slice.injEq] at g3
    obtain ⟨rfl, rfl, rfl⟩ := g3
    refine ⟨.inr ⟨_, _, (Prod.ext_iff.1 hd).1, by simpa using hlen⟩, fun hbig => ⟨n', fun m hm => ?_⟩⟩
    by_cases hl0 : len = 0
    · subst hl0
      exact ⟨[], rfl, by omega, .inl rfl⟩
    have hel' : ∀ i, i < len → ∃ q : Int × Tm m, w.cells? 0 (a'.add (i * 5)) 5 = some [.int .i64 q.1, .int .i64 q.2.tv.k, .int .i64 q.2.tv.N, .string q.2.tv.s, .slice q.2.tv.a q.2.tv.len q.2.tv.cap] ∧ IsT w.heap.size w q.2 := by
      intro i hi
      have h1 := hel i hi
      rw [List.getElem?_eq_getElem (by omega)] at h1
      obtain ⟨cs', h2, h3⟩ := Option.bind_eq_some_iff.1 h1
      obtain ⟨V, t, hu, hT⟩ := open_bind hm h3
      subst hu
      rw [Tryz.cells61] at h2
      exact ⟨(V, t), h2, hT⟩
    clear hel
    obtain ⟨b, off, spot⟩ := a'
    have hspot : spot = none := by
      obtain ⟨u, h2, -⟩ := hel' 0 (by omega)
      obtain ⟨s1, -⟩ := cells5 h2
      simpa [Addr.add] using s1
    subst hspot
    have hkid : ∀ i, i < len → ∃ q : Int × Tm m, b < w.heap.size ∧ w.cell? ⟨b, off + i * 5, none⟩ = some (.int .i64 q.1) ∧ cellsAt w b (off + i * 5 + 1) q.2.tv ∧ IsT w.heap.size w q.2 := by
      intro i hi
      obtain ⟨q, h2, hT⟩ := hel' i hi
      rw [add_none] at h2
      obtain ⟨-, k0, k1, k2, k3, k4⟩ := cells5 h2
      exact ⟨q, cell_lt k0, k0, ⟨k1, k2, k3, k4⟩, hT⟩
    obtain ⟨bs, hbl, hbs⟩ := list_of hkid
    obtain ⟨_, hb0, _⟩ := hkid 0 (by omega)
    exact ⟨bs, hbl.symm, hbig, .inr ⟨b, off, rfl, hb0, fun j q hq => (hbs j q hq).2⟩⟩
end Go.Proofs.YtiigkiemkhdclaaGreatDoor

/- What a bound of the bulk gives: how long lists of binds are, and how many parts a term has. -/
namespace Go.Proofs.YtiigkiemkhdclaaGreatDoor
open Go.RowKit Go.Joins Go.WideShapes

theorem bulk_one {H : Type} (d : DataW H) : 1 ≤ Rows.uptoBulk d := by
  cases d with
  | lit l => cases l <;> simp [Rows.uptoBulk]
  | nil => simp [Rows.uptoBulk]
  | ptr d => simp [Rows.uptoBulk]
  | slice elems spare => simp [Rows.uptoBulk]
  | agg parts => simp [Rows.uptoBulk]
  | iface t d => simp [Rows.uptoBulk]
  | map entries => simp [Rows.uptoBulk]
  | held h => simp [Rows.uptoBulk]
theorem bulk_len {H : Type} (l : List (DataW H)) : l.length ≤ Rows.uptoBulkAll l := by
  induction l with
  | nil => simp [Rows.uptoBulkAll]
  | cons x r ih => have := bulk_one x; simp only [Rows.uptoBulkAll, List.length_cons]; omega
theorem bulk_list {H : Type} {d : DataW H} {len : Nat} (h : len = 0 ∨ ∃ es sp, d = .slice es sp ∧ es.length = len) : len ≤ Rows.uptoBulk d := by
  rcases h with h | ⟨es, sp, rfl, h⟩
  · omega
  · have := bulk_len es
    simp only [Rows.uptoBulk]
    omega
theorem bulk_part {H : Type} {d : DataW H} {l : List (DataW H)} (h : d ∈ l) : Rows.uptoBulk d ≤ Rows.uptoBulkAll l := by
  induction l with
  | nil => cases h
  | cons x r ih =>
    simp only [Rows.uptoBulkAll]
    cases List.mem_cons.1 h with
    | inl e => subst e; omega
    | inr e => have := ih e; omega
theorem bulk_kids {H : Type} {n : Nat} : ∀ (kids : List (Tm n)) (ds : List (DataW H)), kids.length = ds.length → (∀ (i : Nat) (u : Tm n) (d : DataW H), kids[i]? = some u → ds[i]? = some d → (code u).length ≤ Rows.uptoBulk d) → (kids.flatMap code).length ≤ Rows.uptoBulkAll ds
  | [], ds, _, _ => by simp
  | u :: kids, [], h, _ => by simp at h
  | u :: kids, d :: ds, h, hk => by
    have h1 := hk 0 u d rfl rfl
    have h2 := bulk_kids kids ds (by simpa using h) (fun i u d hu hd => hk (i + 1) u d (by simpa using hu) (by simpa using hd))
    simp only [List.flatMap_cons, List.length_append, Rows.uptoBulkAll]
    omega

/-- The cells of a term that can be read, and how many parts it has. -/
theorem open_bulk {H : Type} {enc : TypeId × Value → H} {w : World} {spare : Nat → Bool} {held : Bool} : ∀ (k fuel : Nat), fuel ≤ k → ∀ (m : Nat), fuel ≤ m → ∀ (cs : List Value) (y : DataW H × List MemPlace),
    DataW.trod enc Tryz.prog w 0 spare held fuel 24 cs = some y → ∃ t : Tm m, cs = [.int .i64 t.tv.k, .int .i64 t.tv.N, .string t.tv.s, .slice t.tv.a t.tv.len t.tv.cap] ∧ IsT w.heap.size w t ∧ (code t).length ≤ Rows.uptoBulk y.1 := by
  intro k
  induction k with
  | zero =>
    intro fuel hf m _ cs y h
    obtain rfl : fuel = 0 := by omega
    simp [DataW.trod] at h
  | succ k ih =>
    intro fuel hf m hm cs y h
    obtain ⟨xs, n, rfl, rfl, hl, hxl, hfs⟩ := DataW.trod_struct Tryz.underlying24 h
    rw [Tryz.cells28] at hl
    have hx4 : xs.length = 4 := hxl
    clear hxl
    obtain ⟨v0, v1, v2, v3, rfl⟩ := list4 hl
    have f0 : DataW.trod enc Tryz.prog w 0 spare held n 3 (List.take (Tryz.prog.cellsOf 3) (List.drop 0 [v0, v1, v2, v3])) = xs[0]? := hfs 0 _ rfl
    have f1 : DataW.trod enc Tryz.prog w 0 spare held n 2 (List.take (Tryz.prog.cellsOf 2) (List.drop 1 [v0, v1, v2, v3])) = xs[1]? := hfs 1 _ rfl
    have f2 : DataW.trod enc Tryz.prog w 0 spare held n 9 (List.take (Tryz.prog.cellsOf 9) (List.drop 2 [v0, v1, v2, v3])) = xs[2]? := hfs 2 _ rfl
    have f3 : DataW.trod enc Tryz.prog w 0 spare held n 22 (List.take (Tryz.prog.cellsOf 22) (List.drop 3 [v0, v1, v2, v3])) = xs[3]? := hfs 3 _ rfl
    rw [Tryz.cells3] at f0
    rw [Tryz.cells2] at f1
    rw [Tryz.cells9] at f2
    rw [Tryz.cells26] at f3
    simp only [List.drop_zero, List.drop_succ_cons, List.take_succ_cons, List.take_zero] at f0 f1 f2 f3
    clear hfs
    obtain ⟨x0, x1, x2, x3, rfl⟩ := list4 hx4
    simp only [List.getElem?_cons_zero, List.getElem?_cons_succ] at f0 f1 f2 f3
    obtain ⟨tk, g0, -, -⟩ := DataW.trod_int Tryz.underlying3 f0
    obtain ⟨tN, g1, -, -⟩ := DataW.trod_int Tryz.underlying2 f1
    obtain ⟨ts, g2, -, hsm⟩ := DataW.trod_string Tryz.underlying9 f2
    simp only [List.cons.injEq, and_true] at g0 g1 g2
    subst g0 g1 g2
    unfold maxLen at hsm
    have hbulk : Rows.uptoBulk x3.1 ≤ Rows.uptoBulkAll ([x0, x1, x2, x3].map (·.1)) := bulk_part (by simp)
    have hb1 := bulk_one x3.1
    obtain ⟨m', rfl⟩ : ∃ m', m = m' + 1 := ⟨m - 1, by omega⟩
    rcases DataW.trod_slice Tryz.underlying22 f3 with ⟨g3, -⟩ | ⟨a, len, cap, elems, rest, n', hn', g3, hd3, hb, hlc, hmx, hlen, hel, -, -⟩
    · simp only [List.cons.injEq, and_true] at g3
      subst g3
      refine ⟨((⟨tk, tN, ts, none, 0, 0⟩, []) : TV × List (Tm m')), rfl, ⟨rfl, by simp [Tm.tv], by simp only [Tm.tv]; omega, .inl rfl⟩, ?_⟩
      rw [code_succ]
      simp only [Rows.uptoBulk, List.flatMap_nil, List.length_cons, List.length_nil]
      omega
    · simp only [List.cons.injEq, and_true] at g3
      subst g3
      unfold maxLen at hmx
      by_cases hl0 : len = 0
      · subst hl0
        refine ⟨((⟨tk, tN, ts, some a, 0, cap⟩, []) : TV × List (Tm m')), rfl, ⟨rfl, by simp [Tm.tv], by simp only [Tm.tv]; omega, .inl rfl⟩, ?_⟩
        rw [code_succ]
        simp only [Rows.uptoBulk, List.flatMap_nil, List.length_cons, List.length_nil]
        omega
      · have hel' : ∀ i, i < len → ∃ u : Tm m', w.cells? 0 (a.add (i * 4)) 4 = some [.int .i64 u.tv.k, .int .i64 u.tv.N, .string u.tv.s, .slice u.tv.a u.tv.len u.tv.cap] ∧ IsT w.heap.size w u ∧ ∀ d, (elems.map (·.1))[i]? = some d → (code u).length ≤ Rows.uptoBulk d := by
          intro i hi
          have h1 := hel i hi
          rw [List.getElem?_eq_getElem (by omega)] at h1
          obtain ⟨cs', h2, h3⟩ := Option.bind_eq_some_iff.1 h1
          obtain ⟨u, hu, hT, hc⟩ := ih n' (by omega) m' (by omega) cs' _ h3
          subst hu
          rw [Tryz.cells28] at h2
          refine ⟨u, h2, hT, fun d hd => ?_⟩
          rw [List.getElem?_map, List.getElem?_eq_getElem (by omega)] at hd
          simp at hd
          rw [← hd]
          exact hc
        clear hel
        obtain ⟨b, off, spot⟩ := a
        have hspot : spot = none := by
          obtain ⟨u, h2, -⟩ := hel' 0 (by omega)
          obtain ⟨s1, -⟩ := cells4 h2
          simpa [Addr.add] using s1
        subst hspot
        have hkid : ∀ i, i < len → ∃ u : Tm m', b < w.heap.size ∧ (cellsAt w b (off + i * 4) u.tv ∧ IsT w.heap.size w u) ∧ ∀ d, (elems.map (·.1))[i]? = some d → (code u).length ≤ Rows.uptoBulk d := by
          intro i hi
          obtain ⟨u, h2, hT, hc⟩ := hel' i hi
          rw [add_none] at h2
          obtain ⟨-, k0, k1, k2, k3⟩ := cells4 h2
          exact ⟨u, cell_lt k0, ⟨⟨k0, k1, k2, k3⟩, hT⟩, hc⟩
        obtain ⟨kids, hkl, hks⟩ := list_of hkid
        obtain ⟨_, hb0, _⟩ := hkid 0 (by omega)
        clear hkid hel' ih
        have hl63 : len ≤ 9223372036854775807 := by omega
        have hs63 : ts.size ≤ 9223372036854775807 := by omega
        have hfin : IsT w.heap.size w (n := m' + 1) (((⟨tk, tN, ts, some ⟨b, off, none⟩, len, cap⟩ : TV), kids) : TV × List (Tm m')) := isT_mk _ kids hkl.symm hl63 hs63 (.inr ⟨b, off, rfl, hb0, fun j u hu => (hks j u hu).2.1⟩)
        refine ⟨_, rfl, hfin, ?_⟩
        have hsum := bulk_kids kids (elems.map (·.1)) (by simp [hkl, hlen]) (fun i u d hu hd => (hks i u hu).2.2 d hd)
        rw [code_succ]
        have h3 : Rows.uptoBulkAll (elems.map (·.1)) + 1 ≤ Rows.uptoBulk x3.1 := by rw [hd3]; simp only [Rows.uptoBulk]; omega
        simp only [Rows.uptoBulk, List.length_cons]
        omega

set_option maxRecDepth 100000 in
/-- An argument that is a term: from some number of storeys on it is one, of no more parts than its bulk. -/
theorem open_arg_bulk {H : Type} {enc : TypeId × Value → H} {w : World} {r : Reach} {b0 : Nat} {spare : Nat → Bool} {held : Bool} {v : Value} {d : DataW H} {p : List MemPlace} (hv : Value.okWide Tryz.prog w r b0 24 v) (h : DataW.Trod enc Tryz.prog w 0 spare held 24 v d p) :
    ∃ N, ∀ m, N ≤ m → ∃ t : Tm m, v = t.tv.val ∧ IsT w.heap.size w t ∧ (code t).length ≤ Rows.uptoBulk d := by
  obtain ⟨cs, rfl, _⟩ := okWide_struct Tryz.underlying24 hv
  obtain ⟨fuel, hf⟩ := h
  refine ⟨fuel, fun m hm => ?_⟩
  obtain ⟨t, ht, hT, hc⟩ := open_bulk fuel fuel (Nat.le_refl _) m hm _ _ hf
  refine ⟨t, ?_, hT, hc⟩
  have : cs.toList = [.int .i64 t.tv.k, .int .i64 t.tv.N, .string t.tv.s, .slice t.tv.a t.tv.len t.tv.cap] := by simpa [Value.cells] using ht
  unfold TV.val
  rw [← this]
end Go.Proofs.YtiigkiemkhdclaaGreatDoor

