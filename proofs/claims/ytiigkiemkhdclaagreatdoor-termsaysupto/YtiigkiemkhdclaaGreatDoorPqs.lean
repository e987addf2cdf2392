import Derived.Test.YtiigkiemkhdclaaGreatDoorPus
import Derived.Test.YtiigkiemkhdclaaGreatDoorLms
import Derived.Test.YtiigkiemkhdclaaGreatDoorKys
import Derived.Test.YtiigkiemkhdclaaGreatDoorAks
/- The contract of term.Put: a copy with another term at a path (putC). -/
namespace Go.Proofs.YtiigkiemkhdclaaGreatDoor
open Go.RowKit Go.Shelf Go.Maps

theorem put_zip {n m : Nat} {q : Nat} {f : Tm n → List Nd} {g : Tm m → List Nd} : ∀ (l : List (Tm n)) (r : List (Tm m)) (s : Nat), l.map code = r.map code → (∀ u ∈ l, ∀ v ∈ r, code u = code v → f u = g v) → ((l.zipIdx s).flatMap fun p => if p.2 = q then f p.1 else code p.1) = (r.zipIdx s).flatMap fun p => if p.2 = q then g p.1 else code p.1
  | [], [], _, _, _ => rfl
  | [], _ :: _, _, h, _ => by simp at h
  | _ :: _, [], _, h, _ => by simp at h
  | u :: l, v :: r, s, h, hf => by
    simp only [List.map_cons, List.cons.injEq] at h
    rw [List.zipIdx_cons, List.zipIdx_cons, List.flatMap_cons, List.flatMap_cons, put_zip l r (s + 1) h.2 fun a ha b hb => hf a (List.mem_cons_of_mem _ ha) b (List.mem_cons_of_mem _ hb)]
    congr 1
    by_cases hq : s = q
    · simp only [hq, if_true]
      exact hf u List.mem_cons_self v List.mem_cons_self h.1
    · simp only [if_neg hq]
      exact h.1
theorem code_at {n : Nat} (t : Tm (n + 1)) : code t = t.tv.nd :: t.kids.flatMap code := code_succ t.tv t.kids
/-- Terms of the same code have the same parts' places, and the same codes with another term there. -/
theorem at_code : ∀ (ns : List Int) {n m : Nat} (t : Tm n) (s : Tm m), Wl t → Wl s → code t = code s → (atT ns t = none ↔ atT ns s = none) ∧ ∀ c, putC ns t c = putC ns s c
  | [], _, _, _, _, _, _, _ => ⟨by simp [atT], fun c => rfl⟩
  | _ :: _, 0, _, t, _, _, _, _ => Empty.elim t
  | _ :: _, _ + 1, 0, _, s, _, _, _ => Empty.elim s
  | k :: r, n + 1, m + 1, t, s, ht, hs, he => by
    replace he : t.tv.nd :: t.kids.flatMap code = s.tv.nd :: s.kids.flatMap code := (code_at t).symm.trans (he.trans (code_at s))
    rw [List.cons.injEq] at he
    obtain ⟨hnd, hfl⟩ := he
    have hl : t.kids.length = s.kids.length := by
      have h1 := ht.1
      have h2 := hs.1
      have h3 : t.tv.len = s.tv.len := by
        have := congrArg (fun x : Nd => x.2.2.2) hnd
        exact this
      omega
    have hk := kids_codes _ _ hl ht.2 hs.2 hfl
    refine ⟨?_, fun c => ?_⟩
    · by_cases hin : 0 ≤ k ∧ k < (t.kids.length : Int)
      · obtain ⟨q, hq⟩ : ∃ q : Nat, k = (q : Nat) := ⟨k.toNat, by omega⟩
        obtain ⟨z, hz⟩ : ∃ z, t.kids[q]? = some z := ⟨t.kids[q]'(by omega), List.getElem?_eq_getElem (by omega)⟩
        obtain ⟨y, hy⟩ : ∃ y, s.kids[q]? = some y := ⟨s.kids[q]'(by omega), List.getElem?_eq_getElem (by omega)⟩
        rw [atT_go hq hz, atT_go hq hy]
        have hzy : code z = code y := by
          have h1 := congrArg (fun l => l[q]?) hk
          simpa [hz, hy] using h1
        exact (at_code r z y (ht.2 z (List.mem_of_getElem? hz)) (hs.2 y (List.mem_of_getElem? hy)) hzy).1
      · rw [atT_no hin, atT_no (by rw [← hl]; exact hin)]
    · simp only [putC, putL]
      rw [hnd, put_zip t.kids s.kids 0 hk fun u hu v hv e => (at_code r u v (ht.2 u hu) (hs.2 v hv) e).2 c]

set_option maxRecDepth 100000 in
set_option maxHeartbeats 2000000 in
theorem put_bad {n : Nat} (t u : Tm n) (a : Option Addr) (len cap : Nat) (w : World) (ht : IsT w.heap.size w t) (hu : IsT w.heap.size w u) (hok : [t, u].all okT = false) :
    Calls Tryz.prog 23 #[t.tv.val, .slice a len cap, u.tv.val] w fun e W' => e = .returned (.tuple #[zeroT.val, .int .i64 2]) ∧ Below w.heap.size w W' := by
  obtain ⟨W3, hW3, hB3, hba, hbb, hbz, hs3⟩ := three_z w t.tv u.tv
  have hck := checkPair t u w W3 ht hu hB3
  rw [chkL_no hok] at hck
  have hadr : (⟨W3.heap.size, 0, none⟩ : Addr) = ⟨w.heap.size + 1 + 1 + 1, 0, none⟩ := by rw [hs3]
  rw [hadr] at hck
  clear hadr
  have a0 := hba.c0
  have a1 := hba.c1
  have a2 := hba.c2
  have a3 := hba.c3
  have b0 := hbb.c0
  have b1 := hbb.c1
  have b2 := hbb.c2
  have b3 := hbb.c3
  simp only [TV.val, zeroT] at hck ⊢
  have HB3 := hide hB3
  have HBZ := hide hbz
  clear ht hu hok hB3 hba hbb hbz
  go_enter Tryz.func23, Tryz.ntmps23
  go_wp2_with fail
  refine hck.mono ?_
  clear hck a0 a1 a2 a3 b0 b1 b2 b3
  rintro e W5 ⟨rfl, hb5⟩
  have hB5 : Below w.heap.size w W5 := (unhide HB3).trans (hb5.mono (by omega))
  have hbz5 := (hb5.block _ (by omega)).trans (unhide HBZ)
  obtain ⟨⟨z0, z1, z2, z3⟩, y0, y1, y2, y3⟩ := zbox_kept hbz5
  have hbf := set4_below hB5 (b := w.heap.size + 2) (by omega) 0 zeroT
  unfold zeroT at hbf
  have HF := hide hbf
  clear hbf hbz5 hB5 hb5
  go_wp2_with fail
  exact bodyPost_ret (v := .tuple #[.agg #[.int .i64 0, .int .i64 0, .string ⟨#[]⟩, .slice none 0 0], .int .i64 2]) (by simp [results, Tryz.results23, go_sem, z0, z1, z2, z3]) rfl ⟨rfl, unhide HF⟩

/-- What Put answers, of terms. -/
def PutOf (D lo : Nat) (W' : World) (no : Prop) (c : List Nd) (x : TV) (e : Int) : Prop :=
  (no ∧ x = zeroT ∧ e = 8) ∨ (¬ no ∧ e = 0 ∧ HoldsS D (fun b => lo ≤ b) W' x.val c)
/-- A cell of a block that may be written is not frozen. -/
theorem Cell4.free {W : World} {b : Nat} (h : Cell4 W b) (o : Nat) : W.frozen? ⟨b, o, none⟩ = false := by
  obtain ⟨arr, h⟩ := h
  simp [World.frozen?, h]

theorem cellsAt_inj {W : World} {b o : Nat} {x y : TV} (hx : cellsAt W b o x) (hy : cellsAt W b o y) : x = y := by
  obtain ⟨x0, x1, x2, x3⟩ := hx
  obtain ⟨y0, y1, y2, y3⟩ := hy
  rw [x0] at y0
  rw [x1] at y1
  rw [x2] at y2
  rw [x3] at y3
  obtain ⟨k, N, s, a, l, c⟩ := x
  simp at y0 y1 y2 y3
  obtain ⟨k', N', s', a', l', c'⟩ := y
  simp_all
/-- Where the part at a path lies, there are four cells. -/
theorem addr_cells : ∀ (ns : List Int) {n : Nat} {t : Tm n} {n₀ b o b' o' : Nat} {W : World}, IsT n₀ W t → cellsAt W b o t.tv → addrT ns t b o = some (b', o') → ∃ v : TV, cellsAt W b' o' v
  | [], _, t, _, _, _, _, _, _, _, hc, h => by
    simp only [addrT, Option.some.injEq, Prod.mk.injEq] at h
    obtain ⟨rfl, rfl⟩ := h
    exact ⟨t.tv, hc⟩
  | _ :: _, 0, t, _, _, _, _, _, _, _, _, _ => Empty.elim t
  | k :: r, n + 1, t, n₀, b, o, b', o', W, hT, hc, h => by
    by_cases hin : 0 ≤ k ∧ k < (t.kids.length : Int)
    · obtain ⟨q, hq⟩ : ∃ q : Nat, k = (q : Nat) := ⟨k.toNat, by omega⟩
      obtain ⟨z, hz⟩ : ∃ z, t.kids[q]? = some z := ⟨t.kids[q]'(by omega), List.getElem?_eq_getElem (by omega)⟩
      obtain ⟨_, _, _, h4⟩ := hT
      have hne : t.kids ≠ [] := fun e => by rw [e] at hz; simp at hz
      obtain ⟨bk, off, ha, hbk, hk⟩ := h4.resolve_left hne
      rw [addrT_go hq hz ha] at h
      exact addr_cells r (hk q z hz).2 (hk q z hz).1 h
    · rw [addrT_no hin] at h
      cases h

/-- All that Put's last steps need, once the copy lies in its box and the place is known. -/
theorem put_last {n lo : Nat} {t1 : Tm (n + 1)} {ns : List Int} {cu : List Nd} {B b' o' : Nat} {W7 W8 : World} {y : TV} (hT : IsT W7.heap.size W7 t1) (hc : cellsAt W7 B 0 t1.tv) (hnd : (blks t1).Nodup) (hB : B ∉ blks t1) (hlo : ∀ b ∈ blks t1, lo ≤ b ∧ Cell4 W7 b) (hB4 : Cell4 W7 B) (hBlo : lo ≤ B)
    (hb8 : Below W7.heap.size W7 W8) (hy : HoldsT (n + 1) W7.heap.size W8 y.val cu) (had : addrT ns t1 B 0 = some (b', o')) :
    (lo ≤ b' ∧ ∃ v : TV, cellsAt W8 b' o' v) ∧ Cell4 W8 b' ∧ ∃ x : TV, cellsAt (set4 W8 b' o' y) B 0 x ∧ ∀ m, 2 * n + 2 ≤ m → ∃ t' : Tm m, t'.tv = x ∧ IsT W8.heap.size (set4 W8 b' o' y) t' ∧ code t' = putC ns t1 cu ∧ BlkT (fun b => lo ≤ b) t' := by
  have hin := addr_in ns hT had
  have h4 : lo ≤ b' ∧ Cell4 W7 b' := by
    rcases hin with ⟨rfl, _⟩ | h
    · exact ⟨hBlo, hB4⟩
    · exact hlo _ h
  have hT8 : IsT W7.heap.size W8 t1 := hT.below hb8
  have hc8 : cellsAt W8 B 0 t1.tv := hc.kept (hb8.block _ hB4.lt)
  obtain ⟨v, hv⟩ := addr_cells ns hT hc had
  refine ⟨⟨h4.1, v, hv.kept (hb8.block _ h4.2.lt)⟩, h4.2.kept (hb8.block _ h4.2.lt), ?_⟩
  have hyy : ∀ m, n + 1 ≤ m → ∃ y' : Tm m, y'.tv = y ∧ IsT W8.heap.size (set4 W8 b' o' y) y' ∧ code y' = cu ∧ BlkT (fun b => lo ≤ b) y' := fun m hm => by
    obtain ⟨y', e1, e2, e3, e4⟩ := hy m hm
    have hb := e3.blk
    have hlt := h4.2.lt
    have hle := h4.1
    exact ⟨y', (TV.val_inj e1).symm, e2.fromS (fun b (h : W7.heap.size ≤ b) => set4_other _ _ _ _ (by omega)) hb, e4, hb.mono fun b (h : W7.heap.size ≤ b) => by show lo ≤ b; omega⟩
  have hput := put_world hyy ns hb8.size hT8 hc8 hnd hB (fun b hb => (hlo b hb).1) had
  obtain ⟨t', p1, p2, p3, p4⟩ := hput (2 * n + 2) (by omega)
  refine ⟨t'.tv, p1, fun m hm => ?_⟩
  obtain ⟨t2, q1, q2, q3, q4⟩ := hput m (by omega)
  exact ⟨t2, cellsAt_inj q1 p1, q2, q3, q4⟩

set_option maxRecDepth 100000 in
set_option maxHeartbeats 4000000 in
theorem put_any {n : Nat} (t u : Tm n) (ns : List Int) (a : Option Addr) (len cap : Nat) (w : World) (ht : IsT w.heap.size w t) (hu : IsT w.heap.size w u) (okt : okT t = true) (oku : okT u = true) (hN : IsN w a len ns) :
    Calls Tryz.prog 23 #[t.tv.val, .slice a len cap, u.tv.val] w fun e W' => ∃ (x : TV) (r : Int), e = .returned (.tuple #[x.val, .int .i64 r]) ∧ Below w.heap.size w W' ∧ PutOf (2 * n + 2) w.heap.size W' (atT ns t = none) (putC ns t (code u)) x r := by
  obtain ⟨W3, hW3, hB3, hba, hbb, hbz, hs3⟩ := three_z w t.tv u.tv
  have hck := checkPair t u w W3 ht hu hB3
  rw [chkL_yes (show [t, u].all okT = true by simp [okt, oku])] at hck
  have hadr : (⟨W3.heap.size, 0, none⟩ : Addr) = ⟨w.heap.size + 1 + 1 + 1, 0, none⟩ := by rw [hs3]
  rw [hadr] at hck
  clear hadr
  have a0 := hba.c0
  have a1 := hba.c1
  have a2 := hba.c2
  have a3 := hba.c3
  have b0 := hbb.c0
  have b1 := hbb.c1
  have b2 := hbb.c2
  have b3 := hbb.c3
  have hct : ∀ W, Below w.heap.size w W → Calls Tryz.prog 68 #[t.tv.val] W fun e W' => ∃ x : TV, e = .returned x.val ∧ Below W.heap.size W W' ∧ HoldsN (n + 1) W.heap.size W' x.val (code t) := fun W hb => copy_sep t W ((ht.below hb).mono hb.size) okt
  have hcu : ∀ W, Below w.heap.size w W → Calls Tryz.prog 68 #[u.tv.val] W fun e W' => ∃ x : TV, e = .returned x.val ∧ Below W.heap.size W W' ∧ HoldsT (n + 1) W.heap.size W' x.val (code u) := fun W hb => copy_any u W ((hu.below hb).mono hb.size) oku
  have hsm : ∀ t1 : Tm (n + 1), Wl t1 → code t1 = code t → (atT ns t1 = none ↔ atT ns t = none) ∧ ∀ c, putC ns t1 c = putC ns t c := fun t1 h1 h2 => at_code ns t1 t h1 ht.wl h2
  have HCT := hide hct
  have HCU := hide hcu
  have HSM := hide hsm
  have HN := hide hN
  have HB3 := hide hB3
  have HBA := hide hba
  have HBB := hide hbb
  have HBZ := hide hbz
  simp only [TV.val] at hck ⊢
  clear ht hu okt oku hB3 hba hbb hbz hct hcu hsm hN
  go_enter Tryz.func23, Tryz.ntmps23
  go_wp2_with fail
  refine hck.mono ?_
  clear hck a0 a1 a2 a3 b0 b1 b2 b3
  rintro e W5 ⟨rfl, hb5⟩
  have hs5 := hb5.size
  have hB5 : Below w.heap.size w W5 := (unhide HB3).trans (hb5.mono (by omega))
  have hba5 := (unhide HBA).kept hb5
  have hbb5 := (unhide HBB).kept hb5
  have hbz5 := (hb5.block _ (by omega)).trans (unhide HBZ)
  have a0 := hba5.c0
  have a1 := hba5.c1
  have a2 := hba5.c2
  have a3 := hba5.c3
  have hc5 := (unhide HCT) W5 hB5
  simp only [TV.val] at hc5
  have HB5 := hide hB5
  have HBB5 := hide hbb5
  have HBZ5 := hide hbz5
  clear hB5 hba5 hbb5 hbz5 hb5
  go_wp2_with fail
  refine hc5.mono ?_
  clear hc5 a0 a1 a2 a3
  rintro e W6 ⟨x, rfl, hb6, hx6⟩
  obtain ⟨t1, ht1, hT1, -, hcd, hnd, hbl⟩ := hx6 (n + 1) (Nat.le_refl _)
  obtain rfl := TV.val_inj ht1
  have hs6 := hb6.size
  obtain ⟨W7, hW7⟩ : ∃ W7, W6.alloc (.cells #[.int .i64 t1.tv.k, .int .i64 t1.tv.N, .string t1.tv.s, .slice t1.tv.a t1.tv.len t1.tv.cap] 24) = W7 := ⟨_, rfl⟩
  have hb7 : Below W6.heap.size W6 W7 := by rw [← hW7]; exact (Below.refl _ W6).alloc (Nat.le_refl _) _
  have hs7 : W7.heap.size = W6.heap.size + 1 := by rw [← hW7]; simp
  have hbx : BoxT W7 W6.heap.size t1.tv := by rw [← hW7]; exact World.alloc_heap_new W6 _
  have hB7 : Below w.heap.size w W7 := ((unhide HB5).trans (hb6.mono (unhide HB5).size)).trans (hb7.mono (by have := (unhide HB5).size; omega))
  have hT7 : IsT W6.heap.size W7 t1 := hT1.below hb7
  have hsm := (unhide HSM) t1 hT1.wl hcd
  have hc7 : cellsAt W7 W6.heap.size 0 t1.tv := ⟨hbx.c0, hbx.c1, hbx.c2, hbx.c3⟩
  have hpl := placeOf_addr ns a len cap t1 W6.heap.size 0 W7 ((unhide HN).below hB7) hc7 hT7
  have hno : addrT ns t1 W6.heap.size 0 = none ↔ atT ns t = none := (addr_none ns hT7).trans hsm.1
  have hla := fun (W8 : World) (y : TV) (b' o' : Nat) (hb8 : Below W7.heap.size W7 W8) (hy : HoldsT (n + 1) W7.heap.size W8 y.val (code u)) (had : addrT ns t1 W6.heap.size 0 = some (b', o')) =>
    put_last (lo := W5.heap.size) (hT7.mono (by omega)) hc7 hnd (fun h => by have := (hbl _ h).2.lt; omega) (fun b hb => ⟨(hbl b hb).1, (hbl b hb).2.kept (hb7.block _ (hbl b hb).2.lt)⟩) ⟨_, hbx⟩ hs6 hb8 hy had
  rw [hsm.2 (code u)] at hla
  have hbz7 := (hb7.block _ (by omega)).trans ((hb6.block _ (by omega)).trans (unhide HBZ5))
  have hbb7 : BoxT W7 (w.heap.size + 1) u.tv := ((unhide HBB5).kept hb6).kept hb7
  have hcu7 := (unhide HCU) W7 hB7
  have HCU7 := hide hcu7
  have HLA := hide hla
  have HNO := hide hno
  have HBZ7 := hide hbz7
  have HBB7 := hide hbb7
  have HB7 := hide hB7
  clear hcu7 hla hno hbz7 hbb7 hB7 hc7 hsm hT7 hT1 hbx hb7 hb6 hx6 hbl hnd hcd HCU HSM HBZ5 HBB5 HB5 HCT HN HB3 HBA HBB HBZ ht1
  generalize addrT ns t1 W6.heap.size 0 = R at *
  go_wp2_with fail
  refine hpl.mono ?_
  clear hpl
  rintro e W7' ⟨rfl, rfl⟩
  have hsz7 := hs7
  rcases R with _ | ⟨b', o'⟩
  · obtain ⟨⟨z0, z1, z2, z3⟩, y0, y1, y2, y3⟩ := zbox_kept (unhide HBZ7)
    have hbf := set4_below (unhide HB7) (b := w.heap.size + 2) (by omega) 0 zeroT
    unfold zeroT at hbf
    have HF := hide hbf
    have hn := (unhide HNO).1 rfl
    have HNN := hide hn
    clear hbf HLA HNO HCU7 HBB7 hn
    simp only [ptrV]
    go_wp2_with fail
    exact bodyPost_ret (v := .tuple #[.agg #[.int .i64 0, .int .i64 0, .string ⟨#[]⟩, .slice none 0 0], .int .i64 8]) (by simp [results, Tryz.results23, go_sem, z0, z1, z2, z3]) rfl ⟨zeroT, 8, rfl, unhide HF, .inl ⟨unhide HNN, rfl, rfl⟩⟩
  · have hnn : ¬ atT ns t = none := fun h => by have := (unhide HNO).2 h; cases this
    have HNN := hide hnn
    have b0 := (unhide HBB7).c0
    have b1 := (unhide HBB7).c1
    have b2 := (unhide HBB7).c2
    have b3 := (unhide HBB7).c3
    have hc := unhide HCU7
    simp only [TV.val] at hc
    clear hnn HNO HCU7 HBB7
    simp only [ptrV]
    go_wp2_with fail
    refine hc.mono ?_
    clear hc b0 b1 b2 b3
    rintro e W8 ⟨y, rfl, hb8, hy8⟩
    obtain ⟨⟨hlo, v, v0, v1, v2, v3⟩, hfr, x, ⟨x0, x1, x2, x3⟩, hx⟩ := (unhide HLA) W8 y b' o' hb8 hy8 rfl
    have f0 := hfr.free o'
    have f1 := hfr.free (o' + 1)
    have f2 := hfr.free (o' + 2)
    have f3 := hfr.free (o' + 3)
    have hbz9 := (set4_other W8 b' o' y (k := w.heap.size + 2) (by omega)).trans ((hb8.block _ (by omega)).trans (unhide HBZ7))
    have hB9 := set4_below ((unhide HB7).trans (hb8.mono (by have := (unhide HB7).size; omega))) (b := b') (by omega) o' y
    obtain ⟨W9, hW9⟩ : ∃ W9, set4 W8 b' o' y = W9 := ⟨_, rfl⟩
    have hs9 : W9.heap.size = W8.heap.size := by rw [← hW9]; exact set4_size _ _ _ _
    rw [hW9] at hx x0 x1 x2 x3 hbz9 hB9
    unfold set4 at hW9
    obtain ⟨⟨z0, z1, z2, z3⟩, y0, y1, y2, y3⟩ := zbox_kept hbz9
    have hfin : HoldsS (2 * n + 2) (fun b => w.heap.size ≤ b) (set4 W9 (w.heap.size + 2) 0 x) x.val (putC ns t (code u)) := fun m hm => by
      obtain ⟨t', e1, e2, e3, e4⟩ := hx m hm
      refine ⟨t', by rw [e1], ?_, e4.mono (fun b (h : W5.heap.size ≤ b) => by show w.heap.size ≤ b; omega), e3⟩
      rw [set4_size, hs9]
      exact e2.fromS (fun b (h : W5.heap.size ≤ b) => set4_other _ _ _ _ (by omega)) e4
    have hbf := set4_below hB9 (b := w.heap.size + 2) (by omega) 0 x
    have HF := hide (And.intro hbf hfin)
    clear hbf hfin hx hbz9 hB9 hfr hb8 hy8 HLA HBZ7 HB7 hs9 hlo
    go_wp2_with fail
    exact bodyPost_ret (v := .tuple #[x.val, .int .i64 0]) (by simp [results, Tryz.results23, go_sem, TV.val, z0, z1, z2, z3]) rfl ⟨x, 0, rfl, (unhide HF).1, .inr ⟨unhide HNN, rfl, (unhide HF).2⟩⟩
end Go.Proofs.YtiigkiemkhdclaaGreatDoor

/- The error answers of term.General and term.Match. -/
namespace Go.Proofs.YtiigkiemkhdclaaGreatDoor
open Go.RowKit Go.Shelf Go.Maps

set_option maxRecDepth 100000 in
set_option maxHeartbeats 2000000 in
theorem general_bad {n : Nat} (t u : Tm n) (w : World) (ht : IsT w.heap.size w t) (hu : IsT w.heap.size w u) (hok : [t, u].all okT = false) :
    Calls Tryz.prog 19 #[t.tv.val, u.tv.val] w fun e W' => e = .returned (.tuple #[zeroT.val, .int .i64 2]) ∧ Below w.heap.size w W' := by
  obtain ⟨W3, hW3, hB3, hba, hbb, hbz, hs3⟩ := three_z w t.tv u.tv
  have hck := checkPair t u w W3 ht hu hB3
  rw [chkL_no hok] at hck
  have hadr : (⟨W3.heap.size, 0, none⟩ : Addr) = ⟨w.heap.size + 1 + 1 + 1, 0, none⟩ := by rw [hs3]
  rw [hadr] at hck
  clear hadr
  have a0 := hba.c0
  have a1 := hba.c1
  have a2 := hba.c2
  have a3 := hba.c3
  have b0 := hbb.c0
  have b1 := hbb.c1
  have b2 := hbb.c2
  have b3 := hbb.c3
  simp only [TV.val, zeroT] at hck ⊢
  have HB3 := hide hB3
  have HBZ := hide hbz
  clear ht hu hok hB3 hba hbb hbz
  go_enter Tryz.func19, Tryz.ntmps19
  go_wp2_with fail
  refine hck.mono ?_
  clear hck a0 a1 a2 a3 b0 b1 b2 b3
  rintro e W5 ⟨rfl, hb5⟩
  have hB5 : Below w.heap.size w W5 := (unhide HB3).trans (hb5.mono (by omega))
  have hbz5 := (hb5.block _ (by omega)).trans (unhide HBZ)
  obtain ⟨⟨z0, z1, z2, z3⟩, y0, y1, y2, y3⟩ := zbox_kept hbz5
  have hbf := set4_below hB5 (b := w.heap.size + 2) (by omega) 0 zeroT
  unfold zeroT at hbf
  have HF := hide hbf
  clear hbf hbz5 hB5 hb5
  go_wp2_with fail
  exact bodyPost_ret (v := .tuple #[.agg #[.int .i64 0, .int .i64 0, .string ⟨#[]⟩, .slice none 0 0], .int .i64 2]) (by simp [results, Tryz.results19, go_sem, z0, z1, z2, z3]) rfl ⟨rfl, unhide HF⟩

set_option maxRecDepth 100000 in
set_option maxHeartbeats 2000000 in
theorem match_bad {n : Nat} (p t : Tm n) (w : World) (hp : IsT w.heap.size w p) (ht : IsT w.heap.size w t) (hok : [p, t].all okT = false) :
    Calls Tryz.prog 28 #[p.tv.val, t.tv.val] w fun e W' => e = .returned (.tuple #[.slice none 0 0, .bool false, .int .i64 2]) ∧ Below w.heap.size w W' := by
  have hc := checkTwo p t w hp ht
  rw [chkL_no hok] at hc
  simp only [TV.val] at hc ⊢
  clear hok hp ht
  go_enter Tryz.func28, Tryz.ntmps28
  go_wp2_with fail
  refine hc.mono ?_
  clear hc
  rintro e W2 ⟨rfl, hb2, bx, bby⟩
  have HB := hide hb2
  clear hb2 bx bby
  go_wp2_with fail
  exact bodyPost_ret (v := .tuple #[.slice none 0 0, .bool false, .int .i64 2]) (by simp [results, Tryz.results28, go_sem]) rfl ⟨rfl, unhide HB⟩
end Go.Proofs.YtiigkiemkhdclaaGreatDoor

/- The contract of term.Vars: the variables, in the order of their coming. -/
namespace Go.Proofs.YtiigkiemkhdclaaGreatDoor
open Go.RowKit Go.Shelf Go.Maps
attribute [local go_sem] Oper.semAt_some

/-- How a set's element reads. -/
def unitElem (v : Value) : Option (DataW Unit × List MemPlace) :=
  match v with
  | .agg cs => match cs.toList with
    | [] => some (.held (), [])
    | _ => none
  | _ => none
theorem unitElem_mk : unitElem (.agg #[]) = some (.held (), []) := by simp [unitElem]
theorem unitElem_inv {v : Value} {z : DataW Unit × List MemPlace} (h : unitElem v = some z) : v = .agg #[] := by
  unfold unitElem at h
  split at h
  · split at h
    · rename_i cs _ hcs
      simp only [Value.agg.injEq]
      rw [← Array.toList_inj, hcs]
    · cases h
  · cases h
theorem Tryz.zeroU (w : World) : (zeroValue 102).run Tryz.prog w = .ok (.agg #[]) w := by kernel_rfl
/-- A set of numbers that the call made, and the box that holds it. -/
structure SetI (mb bb : Nat) (c : List Int) (W : World) : Prop where
  nodup : c.Nodup
  key : ∀ N ∈ c, 0 ≤ N ∧ N ≤ 1099511627776
  box : W.heap[bb]? = some (.cells #[.map (some mb)] 101 (0, 0))
  map : ∃ E : DataW Unit, W.ownsMap Tryz.prog 2 unitElem mb c.length E ∧ ∀ N, Maps.has E (.int .i64 N) = true ↔ N ∈ c
theorem setI_keep {mb bb : Nat} {c : List Int} {W W' : World} (h : SetI mb bb c W) (h1 : W'.heap[mb]? = W.heap[mb]?) (h2 : W'.heap[bb]? = W.heap[bb]?) : SetI mb bb c W' := by
  obtain ⟨E, ⟨es, clock, e1, e2⟩, e3⟩ := h.map
  exact ⟨h.nodup, h.key, h2.trans h.box, E, ⟨es, clock, h1.trans e1, e2⟩, e3⟩
theorem SetI.lt {mb bb : Nat} {c : List Int} {W : World} (h : SetI mb bb c W) : mb < W.heap.size ∧ bb < W.heap.size := by
  obtain ⟨E, e1, _⟩ := h.map
  exact ⟨e1.lt, (Array.getElem?_eq_some_iff.1 h.box).1⟩
theorem SetI.look {mb bb : Nat} {c : List Int} {W : World} (h : SetI mb bb c W) {N : Int} (h0 : 0 ≤ N) (h1 : N ≤ 1099511627776) :
    (Instr.lookup 101 (.map (some mb)) (.int .i64 N) true).run Tryz.prog W = .ok (.tuple #[.agg #[], .bool (decide (N ∈ c))]) W := by
  obtain ⟨E, e1, e2⟩ := h.map
  obtain ⟨v, ps, hrun, hv⟩ := e1.look_ok Tryz.keyed2 Tryz.underlying101 (Tryz.zeroU W) unitElem_mk (key_i64 h0 h1)
  have hv' := unitElem_inv hv
  subst hv'
  have hh : Maps.has E (.int .i64 N) = decide (N ∈ c) := by rw [Bool.eq_iff_iff, decide_eq_true_eq]; exact e2 N
  rw [hh] at hrun
  exact hrun
theorem SetI.put {mb bb : Nat} {c : List Int} {W : World} (h : SetI mb bb c W) (hne : mb ≠ bb) {N : Int} (h0 : 0 ≤ N) (h1 : N ≤ 1099511627776) (hN : N ∉ c) :
    ∃ W', (Instr.mapUpdate 101 (.map (some mb)) (.int .i64 N) (.agg #[])).run Tryz.prog W = .ok () W' ∧ W.grownBy W' (some mb) ∧ SetI mb bb (c ++ [N]) W' := by
  have hle := nodup_range h.nodup h.key
  obtain ⟨E, e1, e2⟩ := h.map
  have hm := e1.isMap
  obtain ⟨W', hrun, f1, f2⟩ := e1.update Tryz.keyed2 Tryz.underlying101 (by unfold maxLen; omega) (key_i64 h0 h1) unitElem_mk
  have hkl : WideAt.IsKeyLit (.int .i64 N) := Tryz.keyed2.key (key_i64 h0 h1)
  refine ⟨W', hrun, f2, ⟨?_, ?_, (f2.block bb h.lt.2 (by simpa using hne.symm)).trans h.box, _, f1.mono (by simp), ?_⟩⟩
  · rw [List.nodup_append]
    exact ⟨h.nodup, by simp, fun a ha b hb => by simp at hb; subst hb; exact fun e => hN (e ▸ ha)⟩
  · intro M hM
    rcases List.mem_append.1 hM with hM | hM
    · exact h.key M hM
    · simp at hM; subst hM; exact ⟨h0, h1⟩
  · intro M
    by_cases e : M = N
    · subst e
      rw [has_put_same hm hkl]
      simp
    · rw [has_put_other (by simpa using e), e2 M]
      simp [e]

/-- One number behind a row of numbers, inside a fence. -/
theorem append_num_in {F : Fence} {m : Nat} {w : World} {ops : Array Oper} {rest : List Oper} {o : Oper} {a : Act} {Q : Exit → Act → World → Prop} (hgd : o.guard = none) (sl x : Operand)
    (ho : o.op = .call { callee := .builtin .append, args := #[sl, x], argTypes := #[47, 47] }) {B : Nat} {v : Value} {l : List Int} {N : Int} {g c : Nat} (hs : a.eval sl = v) (hx : a.eval x = .slice (some ⟨g, 0, none⟩) 1 c) (hown : OwnN B w v l) (hc : w.cell? ⟨g, 0, none⟩ = some (.int .i64 N)) (hb : l.length ≤ 4194304) (hB : B ≤ w.heap.size)
    (h : ∀ v' w', OwnN B w' v' (l ++ [N]) → w.grownBy w' v.ownBlock → wpListIn F m Tryz.prog ops Q rest (a.put o.dst v') w') : wpListIn F m Tryz.prog ops Q (o :: rest) a w := by
  obtain ⟨i0, hi, hz0, hz1, hz2⟩ := info_parts Tryz.infoN
  obtain ⟨v', w', hr, h2, h3, _⟩ := run_append_own_at (P := Tryz.prog) w B 47 o.type 2 i0 _ 1 8 Tryz.underlying47 hi hz0 hz1 hz2 rfl (by decide) v _ _ hown ⟨g, 0, none⟩ 1 c [.int .i64 N] rfl (fun j u hj => by
    rw [addr_add, Nat.zero_add]
    match j, hj with
    | 0, hj => simp at hj; subst hj; exact hc
    | j + 1, hj => simp at hj) one_one (by unfold maxLen; omega) (by omega) hB
  have hby : OwnN B w' v' (l ++ [N]) := by
    unfold OwnN
    rw [List.length_append]
    have : i64s (l ++ [N]) = i64s l ++ [.int .i64 N] := by simp [i64s]
    rw [this]
    exact h2
  refine wpListIn_plain hgd fun K hK => ?_
  unfold Oper.wpIn
  refine ⟨by simp [Oper.about, ho, resolve, Target.leads, Sem.run_pure], ?_⟩
  rw [Oper.semAt_plain F _ _ (by rw [ho]; intro c hc'; cases hc')]
  simp [execOp, ho, resolve, invoke, builtin, hs, hx, hr, Result.andThen]
  exact hK _ _ (h v' w' hby h3)

/-- What lies under way in term.Vars: the list's box, its row, the set, all else as it was. -/
structure VarI (w : World) (lb mb bb : Nat) (c : List Int) (W : World) : Prop where
  row : ∃ v, Boxed W lb 47 v ∧ OwnN w.heap.size W v c
  set : SetI mb bb c W
  below : Below w.heap.size w W
theorem ownN_cells {B : Nat} {W : World} {v : Value} {l : List Int} (h : OwnN B W v l) : ∀ g, v.ownBlock = some g → B ≤ g ∧ ∃ cur, W.heap[g]? = some (.cells cur 2 (0, 0)) := fun g hg => by
  rcases h.2 with ⟨rfl, _⟩ | ⟨g', cap, cur, rfl, h1, hb, _⟩
  · cases hg
  · have : g' = g := by simpa [Value.ownBlock] using hg
    subst this
    exact ⟨h1, cur, hb⟩
theorem varI_own {β : Type} {w : World} {lb mb bb Bz : Nat} (hz : w.heap.size ≤ Bz) (hmb : mb < Bz) (f : β → List Int) : OwnFrom Bz (fun s W => VarI w lb mb bb (f s) W) := fun s X Y row hs hg hr => by
  obtain ⟨v, hb, hv⟩ := hs.row
  have hcell : ∀ (g : Nat) (c : Array Value) (t : TypeId) (fz : Nat × Nat), X.heap[g]? = some (Obj.cells c t fz) → Y.heap[g]? = X.heap[g]? := fun g c t fz hc => by
    refine hg.block g (Array.getElem?_eq_some_iff.1 hc).1 fun e => ?_
    obtain ⟨o, ho, hoc⟩ := (hr g e.symm).2
    rw [hc] at ho
    cases ho
    cases hoc
  refine ⟨⟨v, (hcell _ _ _ _ hb).trans hb, hv.kept fun g hg' => ?_⟩, setI_keep hs.set ?_ (hcell _ _ _ _ hs.set.box), ?_⟩
  · obtain ⟨_, cur, hc⟩ := ownN_cells hv g hg'
    exact hcell _ _ _ _ hc
  · refine hg.block mb hs.set.lt.1 fun e => ?_
    have := (hr mb e.symm).1
    omega
  · exact hs.below.grown hg hs.below.size (fun k e => Nat.le_trans hz (hr k e).1)
theorem VarI.alloc {w : World} {lb mb bb : Nat} {c : List Int} {W : World} (h : VarI w lb mb bb c W) (o : Obj) : VarI w lb mb bb c (W.alloc o) := by
  obtain ⟨v, hb, hv⟩ := h.row
  exact ⟨⟨v, hb.alloc _, World.ownsRow.alloc hv _⟩, setI_keep h.set (Below.heap_alloc _ _ _ h.set.lt.1) (Below.heap_alloc _ _ _ h.set.lt.2), h.below.alloc h.below.size _⟩
/-- A box of another kind stays where a row of numbers has grown. -/
theorem num_keeps {B : Nat} {W W' : World} {v : Value} {l : List Int} (hv : OwnN B W v l) (hg : W.grownBy W' v.ownBlock) {k : Nat} {o : Obj} (hk : W.heap[k]? = some o) (ho : ∀ c fz, o ≠ .cells c 2 fz) : W'.heap[k]? = some o := by
  refine (hg.block k (Array.getElem?_eq_some_iff.1 hk).1 fun e => ?_).trans hk
  obtain ⟨_, cur, hc⟩ := ownN_cells hv k e.symm
  rw [hk] at hc
  cases hc
  exact ho _ _ rfl
theorem num_box {B lb : Nat} {W W' : World} {v : Value} {l : List Int} {o : Obj} {u : Value} (hb : Boxed W lb 47 u) (hv : OwnN B (W.alloc o) v l) (hg : (W.alloc o).grownBy W' v.ownBlock) : Boxed W' lb 47 u :=
  num_keeps hv hg (hb.alloc o) (fun c fz e => by cases e)
theorem vars_new (W : World) : ∃ W3, ((W.alloc (.cells #[.slice none 0 0] 47)).alloc (.map #[] 0)).alloc (.cells #[.map (some (W.heap.size + 1))] 101) = W3 ∧ W3.heap.size = W.heap.size + 3 ∧ Below W.heap.size W W3 ∧ Boxed W3 W.heap.size 47 (.slice none 0 0) ∧ SetI (W.heap.size + 1) (W.heap.size + 2) [] W3 := by
  refine ⟨_, rfl, by simp, (((Below.refl _ W).alloc (Nat.le_refl _) _).alloc (by simp) _).alloc (by simp; omega) _, ((Boxed.new W 47 (.slice none 0 0)).alloc _).alloc _, ⟨List.nodup_nil, (fun N hN => by cases hN), ?_, .map [], ?_, (fun N => by simp [Maps.has])⟩⟩
  · have h := World.alloc_heap_new ((W.alloc (.cells #[.slice none 0 0] 47)).alloc (.map #[] 0)) (.cells #[.map (some (W.heap.size + 1))] 101)
    simp only [World.size_alloc] at h
    exact h
  · have h := World.ownsMap_made (H := Unit) (W.alloc (.cells #[.slice none 0 0] 47)) Tryz.prog 2 unitElem
    simp only [World.size_alloc] at h
    exact h.alloc _

set_option maxRecDepth 100000 in
set_option maxHeartbeats 4000000 in
theorem vars_in (n : Nat) (hn : 4 ≤ n) {d : Nat} (t : Tm d) (w : World) (hT : IsT w.heap.size w t) (hok : okT t = true) (hl : (parts t).length ≤ 4194304) :
    CallsIn Fence.wide n Tryz.prog 26 #[t.tv.val] w fun e W' => ∃ v, e = .returned (.tuple #[v, .int .i64 0]) ∧ OwnN w.heap.size W' v (varsC [] (code t)) ∧ Below w.heap.size w W' := by
  have h1 : 1 ≤ n := by omega
  have hB1 := (Below.refl _ w).alloc (Nat.le_refl _) (.cells #[.int .i64 t.tv.k, .int .i64 t.tv.N, .string t.tv.s, .slice t.tv.a t.tv.len t.tv.cap] 24)
  have hch := check_in (n - 1) (by omega) t _ ((hT.below hB1).mono hB1.size)
  rw [chk_yes hok] at hch
  have hbx := BoxT.new w t.tv
  have hmm := @run_makeMap Tryz.prog
  generalize hx0 : t.tv = x0 at *
  have Hx0 := hide hx0
  clear hx0
  simp only [TV.val] at hch
  refine callsIn_of_wp_marks Tryz.func26 rfl trivial ?_ rfl
  simp only [TV.val, Tryz.ntmps26, List.size_toArray, List.length_cons, List.length_nil, Nat.reduceAdd, Nat.reduceSub, Array.replicate_succ, Array.replicate_zero, List.push_toArray, List.append_toArray, List.nil_append, List.cons_append]
  gi_wp2
  refine ⟨trivial, hch.mono ?_⟩
  clear hch
  rintro e W1 ⟨rfl, hb1⟩
  have hbx1 : BoxT W1 w.heap.size x0 := (hb1.block w.heap.size (by simp)).trans hbx
  have hB : Below w.heap.size w W1 := hB1.trans (hb1.mono hB1.size)
  have hlt1 : w.heap.size < W1.heap.size := hbx1.lt
  clear hbx hB1 hb1
  obtain ⟨W3, hW3, hs3, hB3, hbl, hset⟩ := vars_new W1
  have hbx3 : BoxT W3 w.heap.size x0 := (hB3.block w.heap.size hlt1).trans hbx1
  have d0 := hbx3.c0
  have d1 := hbx3.c1
  have d2 := hbx3.c2
  have d3 := hbx3.c3
  gi_wp2_with (refine ⟨trivial, ?_⟩; gi_at_call 32; refine (parts_in Fence.wide (n - 1) trivial rfl x0 _).mono ?_; rintro e w' ⟨rfl, rfl⟩)
  clear d0 d1 d2 d3 hW3 hmm
  have hbT := BoxT.new W3 x0
  rw [hs3] at hbT
  have hB4 : Below w.heap.size w (W3.alloc (.cells #[.int .i64 x0.k, .int .i64 x0.N, .string x0.s, .slice x0.a x0.len x0.cap] 24)) := (hB.trans (hB3.mono (by omega))).alloc (by omega) _
  have hs4 : (W3.alloc (.cells #[.int .i64 x0.k, .int .i64 x0.N, .string x0.s, .slice x0.a x0.len x0.cap] 24)).heap.size = W1.heap.size + 4 := by simp [hs3]
  have hI0 : VarI w W1.heap.size (W1.heap.size + 1) (W1.heap.size + 1 + 1) (varsC [] ((([] : List { x : TV // x.ok = true }).map Subtype.val).map TV.nd)) (W3.alloc (.cells #[.int .i64 x0.k, .int .i64 x0.N, .string x0.s, .slice x0.a x0.len x0.cap] 24)) :=
    ⟨⟨_, hbl.alloc _, OwnN.nil _ _⟩, setI_keep hset (Below.heap_alloc _ _ _ (by omega)) (Below.heap_alloc _ _ _ (by omega)), hB4⟩
  obtain ⟨W4, hW4⟩ : ∃ W4, W3.alloc (.cells #[.int .i64 x0.k, .int .i64 x0.N, .string x0.s, .slice x0.a x0.len x0.cap] 24) = W4 := ⟨_, rfl⟩
  rw [hW4] at hbT hB4 hs4 hI0 ⊢
  clear hW4 hset hbl hB3 hs3 hbx3
  have hP : ∀ x ∈ parts t, x.ok = true := List.all_eq_true.1 hok
  refine wpIn_rangeFunc_ownH rfl h1 (gf := 73) (lb := #[.pointer (some ⟨W1.heap.size + 3, 0, none⟩)]) rfl trivial (enters_of Tryz.func73 (by kernel_rfl) rfl)
    (parts_stopsP (fun x => x.ok = true) Fence.wide rfl (n - 1) trivial trivial rfl (W1.heap.size + 3) w.heap.size W4.heap.size t W4 hP (by rw [unhide Hx0]; exact hbT) (hT.below hB4) (by omega) (Nat.le_refl _)) Kp.trans (Kp.putObj (w := W4)) (Below.refl _ _) (fun _ => rfl)
    (fun pre W => VarI w W1.heap.size (W1.heap.size + 1) (W1.heap.size + 1 + 1) (varsC [] ((pre.map Subtype.val).map TV.nd)) W ∧ (pre.length ≤ (parts t).length ∧ W1.heap.size + 4 ≤ W.heap.size))
    (fun _ _ _ => False)
    (OwnFrom.and (varI_own (by omega) (by omega) (fun pre : List { x : TV // x.ok = true } => varsC [] ((pre.map Subtype.val).map TV.nd))) (OwnFrom.and (ownFrom_pure _ _) (fun _ X Y row hs hg _ => Nat.le_trans hs hg.size)))
    (fun c s A B row hs hg hr => hs)
    ⟨hI0, Nat.zero_le _, by omega⟩
    (fun x a' W => ∃ Bx, W1.heap.size + 3 < Bx ∧ BoxT W Bx x.1 ∧ a' = { tmps := #[.agg #[.int .i64 x0.k, .int .i64 x0.N, .string x0.s, .slice x0.a x0.len x0.cap], .pointer (some ⟨w.heap.size, 0, none⟩), .slice none 0 0, .int .i64 0, .int .i64 0, .pointer (some ⟨W1.heap.size, 0, none⟩), .pointer (some ⟨W1.heap.size + 1 + 1, 0, none⟩), .pointer (some ⟨Bx, 0, none⟩), undef, undef, .agg #[.int .i64 x0.k, .int .i64 x0.N, .string x0.s, .slice x0.a x0.len x0.cap], .int .i64 0, .int .i64 0, .bool false, undef, .map (some (W1.heap.size + 1)), .agg #[.int .i64 x0.k, .int .i64 x0.N, .string x0.s, .slice x0.a x0.len x0.cap], .func (.func 73) #[] #[.pointer (some ⟨W1.heap.size + 3, 0, none⟩)], x.1.val, undef, undef, undef, undef, undef, undef, undef, undef, undef, undef, undef, undef, undef, undef, undef, undef, undef, undef, undef, undef, undef, undef], defers := [] })
    (fun x a' _ X Y row hs hg hr => by obtain ⟨Bx, h1, h2, h3⟩ := hs; exact ⟨Bx, h1, boxT_own Bx (fun (_ : Unit) => x.1) () X Y row h2 hg (fun r e => (hr r e).2), h3⟩)
    ?assign ?body ?done ?stop
  case assign =>
    rintro l' pre x W K ⟨hI, hl, hw3⟩ hK
    simp only [TV.val]
    gi_wp2
    exact hK _ _ ((KeepsOthers.alloc _ _).from _) ((Kp.refl _ _ W).alloc _) ⟨hI.alloc _, hl, by simp; omega⟩ ⟨W.heap.size, by omega, BoxT.new W x.1, rfl⟩
  case body =>
    rintro l' pre x a' W hl' ⟨r, hr⟩ ⟨hI, hpl, hw3⟩ ⟨Bx, hBx, bX, rfl⟩ hlt
    obtain ⟨x, hxok⟩ := x
    have hstep : varsC [] (((pre ++ [(⟨x, hxok⟩ : { x : TV // x.ok = true })]).map Subtype.val).map TV.nd) = (if x.k = 1 then stpN (varsC [] ((pre.map Subtype.val).map TV.nd)) x.N else varsC [] ((pre.map Subtype.val).map TV.nd)) := by
      rw [List.map_append, List.map_append, varsC, stepsN_append]; rfl
    have hcl : (varsC [] ((pre.map Subtype.val).map TV.nd)).length ≤ 4194304 := by
      have := varsC_len [] ((pre.map Subtype.val).map TV.nd)
      simp only [List.length_map, List.length_nil] at this
      omega
    generalize varsC [] ((pre.map Subtype.val).map TV.nd) = c at *
    have hpl2 : (pre ++ [(⟨x, hxok⟩ : { x : TV // x.ok = true })]).length ≤ (parts t).length := by simp; omega
    have HST := hide hstep
    clear hstep
    simp only at bX
    have c0 := bX.c0
    have c1 := bX.c1
    have c2 := bX.c2
    have c3 := bX.c3
    by_cases hk : x.k = 1
    · have hk' : (x.k != 1) = false := by simp [hk]
      obtain ⟨h0, hN1⟩ : 0 ≤ x.N ∧ x.N ≤ 1099511627776 := by
        have h := hxok
        unfold TV.ok at h
        rw [hk] at h
        exact wm_var h
      have HK := hide hk
      have hlook := hI.set.look h0 hN1
      obtain ⟨m0, -⟩ := one_cell hI.set.box
      by_cases hN : x.N ∈ c
      · rw [decide_eq_true hN] at hlook
        have HN := hide hN
        have HI := hide hI
        clear hk hN hI
        gi_wp2
        refine ⟨(KeepsOthers.alloc _ _).from _, (Kp.refl _ _ W).alloc _, ?_, hpl2, by simp; omega⟩
        rw [unhide HST, if_pos (unhide HK)]
        unfold stpN
        rw [if_pos (unhide HN)]
        exact (unhide HI).alloc _
      · rw [decide_eq_false hN] at hlook
        have hIa := hI.alloc (.cells #[] 102)
        obtain ⟨Wm, hput, hgm, hsm⟩ := hIa.set.put (by omega) h0 hN1 hN
        obtain ⟨v, hb, hv⟩ := hIa.row
        have hszm : W.heap.size + 1 ≤ Wm.heap.size := by have := hgm.size; simp at this; omega
        have hcm : ∀ (g : Nat) (o : Obj), (W.alloc (.cells #[] 102)).heap[g]? = some o → o.isCells = true → Wm.heap[g]? = some o := fun g o hg ho => by
          refine (hgm.block g (Array.getElem?_eq_some_iff.1 hg).1 fun e => ?_).trans hg
          have e' : g = W1.heap.size + 1 := by simpa using e
          subst e'
          obtain ⟨E, ⟨es, clock, em, _⟩, _⟩ := hIa.set.map
          rw [em] at hg
          cases hg
          cases ho
        have hvm : OwnN w.heap.size Wm v c := hv.kept fun g hg => by
          obtain ⟨_, cur, hc⟩ := ownN_cells hv g hg
          rw [hc]
          exact hcm g _ hc rfl
        have hbm : Boxed Wm W1.heap.size 47 v := hcm _ _ hb rfl
        have bXm : BoxT Wm Bx x := hcm _ _ (bX.alloc _) rfl
        have bXa := bX.alloc (.cells #[] 102)
        obtain ⟨ma, -⟩ := one_cell hIa.set.box
        have e0 := bXa.c0
        have e1 := bXa.c1
        have f1 := bXm.c1
        obtain ⟨va, vc, rfl⟩ := hv.slice
        have cR := hbm.cell
        have fR := hbm.frozen
        have hvn : OwnN w.heap.size (Wm.alloc (.cells #[.int .i64 x.N] 2)) (.slice va c.length vc) c := World.ownsRow.alloc hvm _
        have hBm : Below w.heap.size w Wm := hIa.below.grown hgm hIa.below.size (fun k e => by cases e; omega)
        have hnew : (Wm.alloc (.cells #[.int .i64 x.N] 2)).cell? ⟨Wm.heap.size, 0, none⟩ = some (.int .i64 x.N) := by simp
        gi_wp2_with (gi_at_builtin; go_must (refine append_num_in rfl _ _ rfl rfl rfl hvn hnew hcl (by have := hBm.size; simp; omega) ?_; intro v5 W5 hv5 hg5; obtain ⟨a5, k5, rfl⟩ := hv5.slice; have hb5 := num_box hbm hvn hg5; have g0 := hb5.cell; have g1 := hb5.frozen))
        have hkeep : ∀ (k : Nat) (o : Obj), W.heap[k]? = some o → k ≠ W1.heap.size + 1 → (∀ c fz, o ≠ .cells c 2 fz) → k ≠ W1.heap.size → (W5.setCell ⟨W1.heap.size, 0, none⟩ (.slice a5 (c.length + 1) k5)).heap[k]? = some o := fun k o hk hk1 ho hk2 => by
          rw [Below.heap_setCell _ _ _ _ (by simpa using hk2)]
          refine num_keeps hvn hg5 ?_ ho
          have hkl := (Array.getElem?_eq_some_iff.1 hk).1
          rw [Below.heap_alloc _ _ _ (by omega), hgm.block k (by simp; omega) (by simpa using hk1), Below.heap_alloc _ _ _ hkl]
          exact hk
        have hsz5 : W.heap.size ≤ W5.heap.size := by have := hg5.size; simp at this; omega
        have hlbs : W1.heap.size < W.heap.size := by omega
        have hB5 : Below w.heap.size w (W5.setCell ⟨W1.heap.size, 0, none⟩ (.slice a5 (c.length + 1) k5)) := ((hBm.alloc hBm.size _).grown hg5 (by have := hBm.size; simp; omega) (fun k e => (hvn.lt e).1)).setCell (p := ⟨W1.heap.size, 0, none⟩) (by simp; omega) _
        refine ⟨⟨by simpa using hsz5, fun k o hk hko hc => hkeep k o hko (by omega) (fun c fz e => by subst e; cases hc) (by omega)⟩, ⟨by simpa using hsz5, fun i o hi ha hc => ?_⟩, ?_, hpl2, by simp; omega⟩
        · rcases hi with hi | ⟨hi, ht⟩
          · rw [hB5.block i hi, ← ha, hI.below.block i hi]
          · exact hkeep i o ha (by omega) (fun c fz e => by subst e; simp [tmCells] at ht) (by omega)
        · rw [unhide HST, if_pos (unhide HK)]
          unfold stpN
          rw [if_neg hN]
          refine ⟨⟨_, hb5.set _, ?_⟩, ?_, hB5⟩
          · have hl2 : (c ++ [x.N]).length = c.length + 1 := by simp
            rw [hl2] at hv5
            refine hv5.kept fun g hg => Below.heap_setCell _ _ _ _ fun e => ?_
            obtain ⟨_, cur, hc⟩ := ownN_cells hv5 g hg
            have e' : g = W1.heap.size := e
            rw [e', show W5.heap[W1.heap.size]? = _ from hb5] at hc
            cases hc
          · refine setI_keep hsm ?_ ?_
            · rw [Below.heap_setCell _ _ _ _ (by simp), num_keeps hvn hg5 (o := Wm.heap[W1.heap.size + 1]'(hsm.lt.1)) (by rw [Below.heap_alloc _ _ _ hsm.lt.1]; exact Array.getElem?_eq_getElem _) ?_]
              · exact (Array.getElem?_eq_getElem hsm.lt.1).symm
              · intro c' fz e
                obtain ⟨E, ⟨es, clock, em, _⟩, _⟩ := hsm.map
                rw [Array.getElem?_eq_getElem hsm.lt.1, e] at em
                cases em
            · rw [Below.heap_setCell _ _ _ _ (by simp; omega), hsm.box]
              exact num_keeps hvn hg5 ((Below.heap_alloc _ _ _ hsm.lt.2).trans hsm.box) (fun c' fz e => by cases e)
    · have hk' : (x.k != 1) = true := by simp [hk]
      have HK := hide hk
      clear hk
      gi_wp2
      refine ⟨KeepsFrom.refl _ _, Kp.refl _ _ W, ?_, hpl2, hw3⟩
      rw [unhide HST, if_neg (unhide HK)]
      exact hI
  case done =>
    rintro D ys W hD hys ⟨hI, _, _⟩ hK
    rw [hys] at hI
    have hcc : varsC [] ((parts t).map TV.nd) = varsC [] (code t) := rfl
    rw [hcc] at hI
    obtain ⟨cv, hcv⟩ : ∃ cv, varsC [] (code t) = cv := ⟨_, rfl⟩
    rw [hcv] at hI
    have HCV := hide hcv
    clear hcv hcc
    obtain ⟨v, hb, hv⟩ := hI.row
    obtain ⟨va, vc, rfl⟩ := hv.slice
    have cR := hb.cell
    have fR := hb.frozen
    gi_wp2
    refine ⟨by simp, .inl ⟨_, _, rfl, run_takeDeferred hK, ?_⟩⟩
    have hfin := OwnFrom.putObj (varI_own (β := Unit) (w := w) (lb := W1.heap.size) (mb := W1.heap.size + 1) (bb := W1.heap.size + 1 + 1) (Bz := W4.heap.size) (by omega) (by omega) (fun _ => cv)) (s := ()) (.deferred none) hI hD hK rfl
    have hby : OwnN w.heap.size (W.putObj D (.deferred none)) (.slice va cv.length vc) cv := hv.kept fun g hg => by
      obtain ⟨_, cur, hc⟩ := ownN_cells hv g hg
      refine World.putObj_heap_other fun e => ?_
      rw [e, hK] at hc
      cases hc
    exact ⟨.tuple #[.slice va cv.length vc, .int .i64 0], by simp [results, Tryz.f26, go_sem], _, rfl, by rw [unhide HCV]; exact hby, hfin.below⟩
  case stop => rintro D c pre W hD hpre h; exact h.elim
theorem vars_any {d : Nat} (t : Tm d) (w : World) (hT : IsT w.heap.size w t) (hok : okT t = true) (hl : (parts t).length ≤ 4194304) :
    Calls Tryz.prog 26 #[t.tv.val] w fun e W' => ∃ v, e = .returned (.tuple #[v, .int .i64 0]) ∧ OwnN w.heap.size W' v (varsC [] (code t)) ∧ Below w.heap.size w W' :=
  callsIn_wide.1 (vars_in 4 (Nat.le_refl _) t w hT hok hl)

set_option maxRecDepth 100000 in
set_option maxHeartbeats 1000000 in
theorem vars_bad {d : Nat} (t : Tm d) (w : World) (hT : IsT w.heap.size w t) (hok : okT t = false) :
    Calls Tryz.prog 26 #[t.tv.val] w fun e W' => e = .returned (.tuple #[.slice none 0 0, .int .i64 2]) ∧ Below w.heap.size w W' := by
  have hB1 := (Below.refl _ w).alloc (Nat.le_refl _) (.cells #[.int .i64 t.tv.k, .int .i64 t.tv.N, .string t.tv.s, .slice t.tv.a t.tv.len t.tv.cap] 24)
  have hch := check_any t _ ((hT.below hB1).mono hB1.size)
  rw [chk_no hok] at hch
  clear hT hok
  simp only [TV.val] at hch ⊢
  go_enter Tryz.func26, Tryz.ntmps26
  go_wp2_with fail
  refine hch.mono ?_
  clear hch
  rintro e W1 ⟨rfl, hb1⟩
  have hB : Below w.heap.size w W1 := hB1.trans (hb1.mono hB1.size)
  clear hB1 hb1
  go_wp2_with fail
  exact bodyPost_ret (v := .tuple #[.slice none 0 0, .int .i64 2]) (by simp [results, Tryz.results26, go_sem]) rfl ⟨rfl, hB⟩
end Go.Proofs.YtiigkiemkhdclaaGreatDoor

