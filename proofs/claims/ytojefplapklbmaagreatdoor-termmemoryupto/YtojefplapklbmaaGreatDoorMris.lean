import Derived.Test.YtojefplapklbmaaGreatDoorMrh
import Derived.Deep.AppendLies
/- The contract of hornkeep.ownBinds: a copy in new memory, with marks behind the row and behind each row of Args. -/
namespace Go.Proofs.YtojefplapklbmaaGreatDoor
open Go.RowKit Go.Shelf Go.Maps

/-- Binds made one by one, their cells in a row of the call's own. -/
structure MadeRB {n : Nat} (lo base : Nat) (W : World) (v : Value) (l : List (Int × TV)) (ks : List (Int × Tm n)) : Prop where
  owns : W.ownsRow base 82 5 v l.length (l.flatMap bRow)
  tvs : ks.map (fun p => (p.1, p.2.tv)) = l
  kid : ∀ p ∈ ks, Owned lo W p.2 ∧ BlkT (fun b => v.ownBlock ≠ some b) p.2
theorem MadeRB.zero {n : Nat} (lo base : Nat) (W : World) : MadeRB (n := n) lo base W (.slice none 0 0) [] [] := ⟨⟨rfl, .inl ⟨rfl, rfl⟩⟩, rfl, fun u hu => by cases hu⟩
theorem MadeRB.next {n lo base : Nat} {W W5 w' : World} {v v' : Value} {l : List (Int × TV)} {ks : List (Int × Tm n)} {V : Int} {u : Tm n} (h : MadeRB lo base W v l ks) (hb : Below W.heap.size W W5) (hu : Owned W.heap.size W5 u) (hlo : lo ≤ W.heap.size)
    (hown : w'.ownsRow base 82 5 v' (l.length + 1) (l.flatMap bRow ++ [(V, u.tv)].flatMap bRow)) (hg : (W5.alloc (.cells #[.int .i64 V, .int .i64 u.tv.k, .int .i64 u.tv.N, .string u.tv.s, .slice u.tv.a u.tv.len u.tv.cap] 82)).grownBy w' v.ownBlock)
    (hbk : v'.ownBlock = v.ownBlock ∨ v'.ownBlock = some (W5.heap.size + 1)) : MadeRB lo base w' v' (l ++ [(V, u.tv)]) (ks ++ [(V, u)]) := by
  have hsz : W5.heap.size + 1 ≤ w'.heap.size := by have := hg.size; simpa using this
  have hsame : ∀ b, b < W5.heap.size → v.ownBlock ≠ some b → w'.heap[b]? = W5.heap[b]? := fun b hb1 hne =>
    (hg.block b (by simp; omega) (fun e => hne e.symm)).trans (Below.heap_alloc _ _ _ hb1)
  have key : ∀ z : Tm n, Owned lo W5 z → BlkT (fun b => v.ownBlock ≠ some b) z → Owned lo w' z ∧ BlkT (fun b => v'.ownBlock ≠ some b) z := fun z hz hzS => by
    refine ⟨hz.fromS hzS (fun b h1 h2 _ => hsame b h2 h1) (by omega), (hzS.and hz.is.blk).mono fun b hb' => ?_⟩
    rcases hbk with e | e
    · rw [e]; exact hb'.1
    · rw [e]; intro e'; simp at e'; have := hb'.2; omega
  refine ⟨by simpa [List.flatMap_append] using hown, by simp [h.tvs], fun z hz => ?_⟩
  rcases List.mem_append.1 hz with hz | hz
  · obtain ⟨z1, z2⟩ := h.kid z hz
    exact key z.2 (z1.below hb) z2
  · simp at hz
    subst hz
    refine key u (hu.mono hlo) (hu.blk.mono fun b (hb' : W.heap.size ≤ b) e => ?_)
    have := (owns_lt h.owns e).2
    omega
/-- Binds of the caller's own. -/
structure OwnedB {n : Nat} (lo : Nat) (W : World) (g len cap : Nat) (bs : List (Int × Tm n)) : Prop where
  is : IsL W.heap.size W (some ⟨g, 0, none⟩) len bs
  own : lo ≤ g
  lt : g < W.heap.size
  room : len + 3 ≤ cap
  kid : ∀ p ∈ bs, Owned lo W p.2
  mark : W.cell? ⟨g, len * 5, none⟩ = some (.int .i64 (-7))
theorem OwnedB.below {n lo : Nat} {A B : World} {g len cap : Nat} {bs : List (Int × Tm n)} (h : OwnedB lo A g len cap bs) (hb : Below A.heap.size A B) : OwnedB lo B g len cap bs :=
  ⟨(h.is.below hb).mono hb.size, h.own, Nat.lt_of_lt_of_le h.lt hb.size, h.room, fun p hp => (h.kid p hp).below hb, (hb.cell (p := ⟨g, len * 5, none⟩) h.lt).trans h.mark⟩
theorem ownedB_of {n lo lo' : Nat} {W : World} {v : Value} {len : Nat} {l : List (Int × TV)} {ks : List (Int × Tm n)} (hl : l.length = len) (hlen : len ≤ 4194304) (htv : ks.map (fun p => (p.1, p.2.tv)) = l) (hk : ∀ p ∈ ks, Owned lo W p.2) (hle : lo ≤ lo') (hr : RoomyK 82 5 m15 lo' W v len (l.flatMap bRow)) :
    ∃ g cap, v = .slice (some ⟨g, 0, none⟩) len cap ∧ OwnedB lo W g len cap ks := by
  obtain ⟨g, cap, cur, rfl, hg, hbk, hsz, hcap, htk⟩ := hr.ex
  have hc : ∀ q u, (l.flatMap bRow ++ m15)[q]? = some u → W.cell? ⟨g, q, none⟩ = some u := fun q u hq => by
    rw [← htk, List.getElem?_take] at hq
    split at hq
    · simp [World.cell?, hbk]
      simpa using hq
    · cases hq
  have hgl : g < W.heap.size := (Array.getElem?_eq_some_iff.1 hbk).1
  have hkl : ks.length = len := by rw [← hl, ← htv]; simp
  refine ⟨g, cap, rfl, ⟨hkl.symm, by omega, .inr ⟨g, 0, rfl, hgl, fun j p hp => ?_⟩⟩, by omega, hgl, hcap, hk, hc _ _ ?_⟩
  · have hlj : l[j]? = some (p.1, p.2.tv) := by rw [← htv, List.getElem?_map, hp]; rfl
    have hr := bRow_at l j _ hlj
    have hc' : ∀ q u, (bRow (p.1, p.2.tv))[q]? = some u → W.cell? ⟨g, j * 5 + q, none⟩ = some u := fun q u hq => hc _ _ (by
      have := hr q u hq
      rw [List.getElem?_append_left (List.getElem?_eq_some_iff.1 this).1]
      exact this)
    rw [Nat.zero_add]
    exact ⟨hc' 0 _ rfl, ⟨hc' 1 _ rfl, hc' 2 _ rfl, hc' 3 _ rfl, hc' 4 _ rfl⟩, (hk p (List.mem_of_getElem? hp)).is⟩
  · rw [List.getElem?_append_right (by rw [bRow_len, hl]; omega), bRow_len, hl]
    simp [m15, m5]
theorem cb_take {n : Nat} (bs : List (Int × Tm n)) (j : Nat) (V : Int) (u : Tm n) (h : bs[j]? = some (V, u)) : cb (bs.take (j + 1)) = cb (bs.take j) ++ [(V, code u)] := by
  simp [cb, List.take_add_one, h]
set_option maxRecDepth 100000 in
set_option maxHeartbeats 2000000 in
theorem ownBinds_any {n : Nat} (bs : List (Int × Tm n)) (a : Option Addr) (len cap : Nat) (W : World) (hL : IsL W.heap.size W a len bs) (hlen : len ≤ 4194304) (hw : ∀ p ∈ bs, ∀ x ∈ code p.2, x.2.2.2 ≤ 4194304) :
    Calls Tryz.prog 11 #[.slice a len cap] W fun e W' => ∃ (g cp : Nat) (bs' : List (Int × Tm n)), e = .returned (.slice (some ⟨g, 0, none⟩) len cp) ∧ Below W.heap.size W W' ∧ OwnedB W.heap.size W' g len cp bs' ∧ cb bs' = cb bs := by
  have hl1 : bs.length = len := hL.1.symm
  obtain ⟨i0, hi, hz0, hz1, hz2⟩ := info_parts Tryz.info_bind
  have HI := hide hi
  have HZ0 := hide hz0
  have HZ1 := hide hz1
  have HZ2 := hide hz2
  have HW := hide hw
  have HL := hide hL
  clear hi hz0 hz1 hz2 hw hL
  go_enter Tryz.func11, Tryz.ntmps11
  go_wp2_with fail
  go_loopw [3, 7] (fun av i wr => ∃ (j : Nat) (l : List (Int × TV)) (ks : List (Int × Tm n)), j ≤ len ∧ i = .int .i64 j ∧ l.length = j ∧ Below W.heap.size W wr ∧ MadeRB W.heap.size W.heap.size wr av l ks ∧ cb ks = cb (bs.take j) ∧ (j = 0 → av = .slice none 0 0)) (fun _ i _ => len - (intOf i).toNat)
  case atStart => exact ⟨0, [], [], Nat.zero_le _, rfl, rfl, Below.refl _ _, MadeRB.zero _ _ _, by simp [cb], fun _ => rfl⟩
  case round =>
    obtain ⟨j, l, ks, hj, rfl, hll, hb, hm, hcd, hn0⟩ := hrel
    have HM := hide hm
    have HLL := hide hll
    have HCD := hide hcd
    have HN0 := hide hn0
    clear hm hll hcd hn0
    by_cases hlt : j < len
    · obtain ⟨V, u, b, off, hu, rfl, hbk, hT, c0, c1, c2, c3, c4⟩ := bind_at (unhide HL) hb hlt
      have ihu := fun (W' : World) (hB : Below wr.heap.size wr W') => own_any n u W' ((hT.below hB).mono hB.size) ((unhide HW) (V, u) (List.mem_of_getElem? hu))
      have HC := hide (cb_take bs j V u hu)
      have hy3 : b < wr.heap.size := by have := hb.size; omega
      have hj1 : (j : Int) < len := by omega
      have hown5 : Hid (∀ (W5 : World) (y : TV), Below wr.heap.size wr W5 → (W5.alloc (.cells #[.int .i64 V, .int .i64 y.k, .int .i64 y.N, .string y.s, .slice y.a y.len y.cap] 82)).ownsRow W.heap.size 82 5 u3 l.length (l.flatMap bRow)) := fun W5 y hb5 =>
        owns_below (unhide HM).owns (fun g hg => by
          have hlt := (owns_lt (unhide HM).owns hg).2
          exact (Below.heap_alloc _ _ _ (Nat.lt_of_lt_of_le hlt hb5.size)).trans (hb5.block g hlt))
      have hgl : ∀ g, u3.ownBlock = some g → W.heap.size ≤ g ∧ g < wr.heap.size := fun g hg => owns_lt (unhide HM).owns hg
      have HGL := hide hgl
      have ihd := ihu wr.drew (Below.refl _ wr).drew
      simp only [TV.val] at ihd
      clear ihu hT hgl hu
      go_wp2_with fail
      go_region_held3 (fun w' => w'.cell? ⟨b, off + j * 5, none⟩ = some (.int .i64 V) ∧ w'.cell? ⟨b, off + j * 5 + 1, none⟩ = some (.int .i64 u.tv.k) ∧ w'.cell? ⟨b, off + j * 5 + 2, none⟩ = some (.int .i64 u.tv.N) ∧ w'.cell? ⟨b, off + j * 5 + 3, none⟩ = some (.string u.tv.s) ∧ w'.cell? ⟨b, off + j * 5 + 4, none⟩ = some (.slice u.tv.a u.tv.len u.tv.cap)) (go_keep)
        (first | (go_at_call 10; refine ihd.mono ?_; clear ihd; rintro e W5 ⟨u5, rfl, hb5', hx, hcx⟩; have hb5 : Below wr.heap.size wr W5 := (Below.refl _ wr).drew.trans hb5'; dsimp only [TV.val]; have hbc := bcell hb5) | (refine step_append_lies _ (by rfl) _ _ 32 (by rfl) W.heap.size 82 i0 _ 5 64 Tryz.underlying32 (unhide HI) (unhide HZ0) (unhide HZ1) (unhide HZ2) rfl (by decide) u3 l.length (l.flatMap bRow) (by rfl) (hown5.out W5 u5.tv hb5) ⟨W5.heap.size, 0, none⟩ 1 1 ([(V, u5.tv)].flatMap bRow) (by rfl) (by rfl) (new_bind (W5 := W5) (V := V) (x := u5.tv)) (bRow_one _) (by omega) (by have := unhide HLL; unfold maxLen; omega) (by have := unhide HLL; omega) (by have := hb5.size; have := hb.size; simp; omega) (W5.heap.size + 1) (by simp) ?_; intro gg cp w1 hown' hgrow hat hltg; have hbd : ∀ b o, b < W.heap.size → w1.cell? ⟨b, o, none⟩ = wr.cell? ⟨b, o, none⟩ := (fun b o h => (((hb5.alloc hb5.size _).mono hb.size).grown hgrow (by have := hb5.size; have := hb.size; simp; omega) (fun g hg => ((unhide HGL) g hg).1)).cell (p := ⟨b, o, none⟩) h)))
      have hwr := hb.size
      have hmade := (unhide HM).next hb5 hx hwr hown' hgrow (hat.elim (fun h => .inl h.symm) (fun h => .inr (congrArg some h)))
      have hbel : Below W.heap.size W w1 := ((hb.trans (hb5.mono hb.size)).alloc (Nat.le_trans hwr hb5.size) _).grown hgrow (by have := hb5.size; simp; omega) (fun g hg => ((unhide HGL) g hg).1)
      have hfin : cb (ks ++ [(V, u5)]) = cb (bs.take (j + 1)) := by
        rw [unhide HC, ← unhide HCD]
        simp [cb, hcx]
      have HM2 := hide hmade
      clear hmade hgrow hown' hat hltg hbd hbc c0 c1 c2 c3 c4
      go_wp2_with fail
      go_roundw
      case rel => exact ⟨j + 1, l ++ [(V, u5.tv)], ks ++ [(V, u5)], by omega, by go_num, by simp [unhide HLL], hbel, unhide HM2, hfin, fun h => by omega⟩
      case measure => simp [intOf]; omega
    · obtain rfl : j = len := by omega
      have ht : bs.take j = bs := List.take_of_length_le (by omega)
      rw [ht] at HCD
      have hj1 : ¬ (j : Int) < j := by omega
      have hro : ∀ W5, Below wr.heap.size wr W5 → Calls Tryz.prog 55 #[u3, .agg #[.int .i64 (-7), .int .i64 9, .int .i64 (-77), .string ⟨#[115, 112, 111, 105, 108, 116]⟩, .slice none 0 0]] W5 fun e W' => ∃ (g cp : Nat), e = .returned (.slice (some ⟨g, 0, none⟩) j cp) ∧ Below W.heap.size W W' ∧ OwnedB W.heap.size W' g j cp ks := fun W5 h5 => by
        have hm := unhide HM
        have hll := unhide HLL
        have hb5 : Below W.heap.size W W5 := hb.trans (h5.mono hb.size)
        have hend : ∀ v W', Below W5.heap.size W5 W' → RoomyK 82 5 m15 W5.heap.size W' v j (l.flatMap bRow) → ∃ (g cp : Nat), (Ending.returned v) = .returned (.slice (some ⟨g, 0, none⟩) j cp) ∧ Below W.heap.size W W' ∧ OwnedB W.heap.size W' g j cp ks := fun v W' hb' hr => by
          obtain ⟨g, cp, rfl, ho⟩ := ownedB_of hll hlen hm.tvs (fun p hp => ((hm.kid p hp).1.below h5).below hb') (Nat.le_trans hb.size h5.size) hr
          exact ⟨g, cp, rfl, hb5.trans (hb'.mono hb5.size), ho⟩
        rcases hm.owns.2 with ⟨rfl, hn⟩ | ⟨g, cp, cur, rfl, hg1, hg2, hg3, hg4, hg5, hg6⟩
        · have hl0 : l = [] := List.length_eq_zero_iff.1 hn
          subst hl0
          have hj0 : j = 0 := by rw [← hll]; rfl
          subst hj0
          exact (roomyB_nil W5).mono fun e W' ⟨v, e1, e2, e3⟩ => by rw [e1]; exact hend v W' e2 e3
        · rw [hll]
          have hgl := (Array.getElem?_eq_some_iff.1 hg2).1
          refine (roomyB_any g 0 j cp (l.flatMap bRow) W5 hlen (by rw [bRow_len, hll]) (fun q u hq => ?_) (bRow_one l) (fun _ => Nat.lt_of_lt_of_le hgl h5.size)).mono fun e W' ⟨v, e1, e2, e3⟩ => by rw [e1]; exact hend v W' e2 e3
          rw [addr_add, Nat.zero_add]
          refine (h5.cell (p := ⟨g, q, none⟩) hgl).trans ?_
          rw [← hg6, List.getElem?_take] at hq
          split at hq
          · simp [World.cell?, hg2]
            simpa using hq
          · cases hq
      have HRO := hide hro
      clear hro HM HLL HN0
      go_wp2_with fail
      refine (markTerm_any _).mono ?_
      rintro e W4 ⟨rfl, hW4⟩
      have hcall := HRO.out W4 (by rw [hW4]; exact (Below.refl _ wr).alloc (Nat.le_refl _) _)
      clear hW4 HRO
      simp only [markV, TV.val]
      go_wp2_with fail
      refine hcall.mono ?_
      clear hcall
      rintro e W6 ⟨g, cp, rfl, hb6, ho6⟩
      go_wp2_with fail
      go_ret
      exact ⟨g, cp, ks, rfl, hb6, ho6, unhide HCD⟩
end Go.Proofs.YtojefplapklbmaaGreatDoor

/- The contract of hornkeep.stillBinds. -/
namespace Go.Proofs.YtojefplapklbmaaGreatDoor
open Go.RowKit Go.Shelf Go.Maps

theorem cb_both {n : Nat} {bs bs' : List (Int × Tm n)} (h : cb bs' = cb bs) {j : Nat} {V V' : Int} {u u' : Tm n} (h1 : bs[j]? = some (V, u)) (h2 : bs'[j]? = some (V', u')) : V' = V ∧ code u' = code u := by
  have e1 : (cb bs)[j]? = some (V, code u) := by simp [cb, h1]
  have e2 : (cb bs')[j]? = some (V', code u') := by simp [cb, h2]
  rw [h, e1] at e2
  simp at e2
  exact ⟨e2.1.symm, e2.2.symm⟩
set_option maxRecDepth 100000 in
set_option maxHeartbeats 2000000 in
theorem stillBinds_any {n lo : Nat} (bs bs' : List (Int × Tm n)) (a : Option Addr) (g len cap cap' : Nat) (w : World) (hO : OwnedB lo w g len cap' bs') (hL : IsL w.heap.size w a len bs) (hcb : cb bs' = cb bs) (hlen : len ≤ 4194304) (hw : ∀ p ∈ bs', (code p.2).length ≤ 4194304) :
    Calls Tryz.prog 31 #[.slice (some ⟨g, 0, none⟩) len cap', .slice a len cap] w fun e W' => e = .returned (.bool true) ∧ Below w.heap.size w W' := by
  have hst : ∀ wr, Below w.heap.size w wr → ∀ j, j < len → ∃ (V : Int) (u v : TV) (b off : Nat), a = some ⟨b, off, none⟩ ∧ b < w.heap.size
      ∧ (wr.cell? ⟨g, j * 5, none⟩ = some (.int .i64 V) ∧ wr.cell? ⟨g, j * 5 + 1, none⟩ = some (.int .i64 u.k) ∧ wr.cell? ⟨g, j * 5 + 2, none⟩ = some (.int .i64 u.N) ∧ wr.cell? ⟨g, j * 5 + 3, none⟩ = some (.string u.s) ∧ wr.cell? ⟨g, j * 5 + 4, none⟩ = some (.slice u.a u.len u.cap))
      ∧ (wr.cell? ⟨b, off + j * 5, none⟩ = some (.int .i64 V) ∧ wr.cell? ⟨b, off + j * 5 + 1, none⟩ = some (.int .i64 v.k) ∧ wr.cell? ⟨b, off + j * 5 + 2, none⟩ = some (.int .i64 v.N) ∧ wr.cell? ⟨b, off + j * 5 + 3, none⟩ = some (.string v.s) ∧ wr.cell? ⟨b, off + j * 5 + 4, none⟩ = some (.slice v.a v.len v.cap))
      ∧ ∀ W', Below wr.heap.size wr W' → Calls Tryz.prog 30 #[u.val, v.val] W' fun e W2 => e = .returned (.bool true) ∧ Below wr.heap.size wr W2 := fun wr hb j hj => by
    obtain ⟨V', u, b', off', hu, e, _, hT, x0, x1, x2, x3, x4⟩ := bind_at hO.is hb hj
    simp only [Option.some.injEq, Addr.mk.injEq, and_true] at e
    obtain ⟨rfl, rfl⟩ := e
    obtain ⟨V, v, b, off, hv, rfl, hbk, hT', y0, y1, y2, y3, y4⟩ := bind_at hL hb hj
    obtain ⟨rfl, hc⟩ := cb_both hcb hv hu
    simp only [Nat.zero_add] at x0 x1 x2 x3 x4
    refine ⟨V', u.tv, v.tv, b, off, rfl, hbk, ⟨x0, x1, x2, x3, x4⟩, ⟨y0, y1, y2, y3, y4⟩, fun W' hB => ?_⟩
    have hmem := List.mem_of_getElem? hu
    have hR : RmT W' u := ((hO.kid _ hmem).below hb).rm.fromS (S := fun k => k < wr.heap.size) (fun k hk => hB.block k hk) hT.blk
    exact (still_any n u v W' ((hT.below hB).mono hB.size) hR ((hT'.below hB).mono hB.size) (by rw [sameT_code hT.wl hT'.wl, hc]; simp) (hw _ hmem)).mono fun e W2 h => ⟨h.1, hB.trans (h.2.mono hB.size)⟩
  have hmk := hO.mark
  have hgl := hO.lt
  have hroom := hO.room
  have HST := hide hst
  clear hst hO hL hcb hw
  go_enter Tryz.func31, Tryz.ntmps31
  go_wp2_with fail
  go_loopw [13] (fun i wr => ∃ j : Nat, j ≤ len ∧ i = .int .i64 j ∧ Below w.heap.size w wr) (fun i _ => len - (intOf i).toNat)
  case atStart => exact ⟨0, Nat.zero_le _, rfl, Below.refl _ _⟩
  case round =>
    obtain ⟨j, hj, rfl, hb⟩ := hrel
    by_cases hlt : j < len
    · obtain ⟨V, u, v, b, off, rfl, hbk, ⟨x0, x1, x2, x3, x4⟩, ⟨y0, y1, y2, y3, y4⟩, hcall⟩ := HST.out wr hb j hlt
      have hcd := hcall wr.drew (Below.refl _ wr).drew
      have hcw := hcall wr (Below.refl _ wr)
      simp only [TV.val] at hcd hcw
      have hj1 : (j : Int) < len := by omega
      have hy1 : g < wr.heap.size := Nat.lt_of_lt_of_le hgl hb.size
      have hy2 : b < wr.heap.size := Nat.lt_of_lt_of_le hbk hb.size
      clear HST hcall hcw
      go_wp2_with fail
      go_region_held3 (fun w' => w'.cell? ⟨g, j * 5, none⟩ = some (.int .i64 V) ∧ w'.cell? ⟨g, j * 5 + 1, none⟩ = some (.int .i64 u.k) ∧ w'.cell? ⟨g, j * 5 + 2, none⟩ = some (.int .i64 u.N) ∧ w'.cell? ⟨g, j * 5 + 3, none⟩ = some (.string u.s) ∧ w'.cell? ⟨g, j * 5 + 4, none⟩ = some (.slice u.a u.len u.cap)
          ∧ w'.cell? ⟨b, off + j * 5, none⟩ = some (.int .i64 V) ∧ w'.cell? ⟨b, off + j * 5 + 1, none⟩ = some (.int .i64 v.k) ∧ w'.cell? ⟨b, off + j * 5 + 2, none⟩ = some (.int .i64 v.N) ∧ w'.cell? ⟨b, off + j * 5 + 3, none⟩ = some (.string v.s) ∧ w'.cell? ⟨b, off + j * 5 + 4, none⟩ = some (.slice v.a v.len v.cap)) (go_keep)
        (first | (go_at_call 30; refine hcd.mono ?_; clear hcd; rintro e W2 ⟨rfl, hb2⟩; have hbc := bcell hb2))
      go_wp2_with fail
      go_roundw
      case rel => exact ⟨j + 1, by omega, by go_num, hb.trans (hb2.mono hb.size)⟩
      case measure => simp [intOf]; omega
    · obtain rfl : j = len := by omega
      have hj1 : ¬ (j : Int) < j := by omega
      have c0 := (hb.cell (p := ⟨g, j * 5, none⟩) hgl).trans hmk
      have hr1 : j + 1 ≤ cap' := by omega
      clear HST hmk
      go_wp2_with fail
      go_ret
      exact ⟨rfl, hb⟩
end Go.Proofs.YtojefplapklbmaaGreatDoor

/- Binds that were sorted may be spoilt: term.sortBinds, told of the row too. -/
namespace Go.Proofs.YtojefplapklbmaaGreatDoor
open Go.RowKit Go.Shelf Go.Maps Go.Sort

theorem nd50 {x : Nd} (h : okNd x = true) : x.2.2.2 ≤ 50 := by
  obtain ⟨k, N, s, len⟩ := x
  simp only [okNd] at h
  split at h
  · simp at h; simp; omega
  · split at h
    · simp at h; simp; omega
    · split at h
      · simp at h; simp; omega
      · split at h
        · simp at h; simp; omega
        · cases h
theorem TK.of_grown {lo : Nat} {A B : World} {row : Option Nat} (hg : A.grownBy B row) (h : ∀ g, row = some g → lo ≤ g → ∀ arr, A.heap[g]? ≠ some (Obj.cells arr 24 (0, 0))) : TK lo A B :=
  ⟨hg.size, fun b arr hb ha => hg.block b (Array.getElem?_eq_some_iff.1 ha).1 (fun e => h b e.symm hb arr ha)⟩
theorem TK.of_below' {lo : Nat} {A B : World} (h : Below A.heap.size A B) : TK lo A B := ⟨h.size, fun b _ _ ha => h.block b (Array.getElem?_eq_some_iff.1 ha).1⟩
theorem RowK.sorted {T : TypeId} {k : Nat} {W : World} {g cap : Nat} (h : RowK T k W g cap) (n : Nat) (d' : Array (Int × TV)) (os : Array Obj) : RowK T k (sortWorldK bRow 5 W g 0 n d' os) g cap := by
  have hlt := h.lt
  obtain ⟨arr, h, hs⟩ := h
  refine ⟨putCells id 0 (flatK bRow 5 d') arr, ?_, by simpa [putCells] using hs⟩
  simp only [sortWorldK, putRowK, putRow, grow, mapBlock]
  rw [Array.getElem?_append_left (by simpa using hlt), Array.getElem?_modify, if_pos rfl]
  show Option.map _ W.heap[g]? = _
  rw [h]
  rfl
/-- The row of binds as it lies: a whole block, each place one of l. -/
def Rowed (base : Nat) (v : Value) (l : List (Int × TV)) (W : World) : Prop :=
  (v = .slice none 0 0 ∧ l = []) ∨ ∃ g cap, v = .slice (some ⟨g, 0, none⟩) l.length cap ∧ base ≤ g ∧ RowK 82 5 W g cap ∧ l.length ≤ cap ∧ cap ≤ 9223372036854775807 ∧ ∀ j, j < l.length → ∃ p ∈ l, cellsAt W g (j * 5 + 1) p.2
theorem sorted_row {D base : Nat} {S : Nat → Prop} {g cap n : Nat} {l : List (Int × TV)} {c : List (Int × List Nd)} {W : World} {d' : Array (Int × TV)} {os : Array Obj} (hm : MadeB D S base W (.slice (some ⟨g, 0, none⟩) l.length cap) l c) (hp : PermIn 0 l.toArray.size l.toArray d') :
    Rowed base (.slice (some ⟨g, 0, none⟩) l.length cap) l (sortWorldK bRow 5 W g 0 n d' os) ∧ ∀ b, b < W.heap.size → Value.ownBlock (.slice (some ⟨g, 0, none⟩) l.length cap) ≠ some b → (sortWorldK bRow 5 W g 0 n d' os).heap[b]? = W.heap[b]? := by
  have hg := owns_lt hm.owns (g := g) rfl
  have hH := holdsK_row hm.owns
  obtain ⟨p1, p2⟩ := perm_in hp
  have hH' := holdsK_sortWorldK_c bRow 5 W g 0 l.toArray d' n os hH hg.2 p2
  have hoth := sortWorld_below bRow 5 W g 0 n d' os
  rcases hm.owns.2 with ⟨h, _⟩ | ⟨g', cap', cur, h, h1, h2, h3, h4, h5, h6⟩
  · cases h
  · simp only [Value.slice.injEq, Option.some.injEq, Addr.mk.injEq, and_true, true_and] at h
    obtain ⟨rfl, rfl⟩ := h
    refine ⟨.inr ⟨g, cap, rfl, h1, RowK.sorted ⟨cur, h2, h5⟩ n d' os, h3, by unfold maxLen at h4; omega, fun j hj => ?_⟩, fun b hb hne => hoth b (fun e => hne (by rw [e]; rfl)) hb⟩
    have hll : d'.toList.length = l.length := by simpa using p2
    obtain ⟨p, hpj⟩ : ∃ p, d'.toList[j]? = some p := ⟨_, List.getElem?_eq_getElem (by omega)⟩
    have hc := holdsK_at hH' j p hpj
    simp only [Nat.zero_add] at hc
    exact ⟨p, (by simpa using p1 : d'.toList.Perm l).mem_iff.1 (List.mem_of_getElem? hpj), hc 1 _ rfl, hc 2 _ rfl, hc 3 _ rfl, hc 4 _ rfl⟩
set_option maxHeartbeats 1000000 in
theorem sortBinds_row {D base : Nat} {S : Nat → Prop} (v : Value) (l : List (Int × TV)) (c : List (Int × List Nd)) (W : World) (hm : MadeB D S base W v l c) (hone : Once c) (hlen : l.length ≤ 1152921504606846976) (hDl : D ≤ 2199023255552 := by omega) :
    Calls Tryz.prog 71 #[v] W fun e W' => e = .returned (.tuple #[]) ∧ Below base W W' ∧ OutB D W' v l.length (insF c) ∧ Rowed base v l W' ∧ ∀ b, b < W.heap.size → v.ownBlock ≠ some b → W'.heap[b]? = W.heap[b]? := by
  rcases hm.owns.2 with ⟨rfl, hn⟩ | ⟨g, cap, cur, rfl, hg, hb, hnc, hcm, hcs, htk⟩
  · have hout := hm.out (k := l.length) (Nat.le_refl _) hlen
    have hl : l = [] := List.length_eq_zero_iff.1 hn
    subst hl
    obtain ⟨ks, k1, k2, k3⟩ := hm.kids D (Nat.le_refl _) hDl
    have hk : ks = [] := by simpa using k1
    subst hk
    have hc : c = [] := k3.symm
    subst hc
    have hcon := AnyF.slices_SortFunc_none sortBind none 0 (.func (.func 95) #[] #[]) W
    change Calls Tryz.prog 94 _ _ _ at hcon
    have HO := hide hout
    clear hm hone hlen k1 k2 k3 hout hn
    go_enter Tryz.func71, Tryz.ntmps71
    go_wp2_with (go_at_call 94; refine hcon.mono ?_; rintro e w' ⟨rfl, rfl⟩)
    go_end0
    exact ⟨rfl, Below.refl _ _, unhide HO, .inl ⟨rfl, rfl⟩, fun _ _ _ => rfl⟩
  · have eg : ∀ args w, (callFunc 95 args).run Tryz.prog w = .ok (.enter 95 args) w := enters_of Tryz.func95 (by kernel_rfl) rfl
    have hcon := AnyQ.slices_SortFunc sortBind 5 Tryz.isAgg82 Tryz.sizeOf82 bRow (fun _ => rfl) (fun x v hv => bRow_one [x] v (by simpa using hv)) (fun x y : Int × TV => cmp3 x.1 y.1) swoV 95 #[] g 0 cap l.toArray W eg (fun _ _ _ _ x y => sortBinds1_any x y _) (holdsK_row hm.owns) (owns_lt hm.owns (g := g) rfl).2 (by simp; omega)
    change Calls Tryz.prog 94 _ _ _ at hcon
    have hsz : l.toArray.size = l.length := by simp
    have hfin : Calls Tryz.prog 94 #[.slice (some ⟨g, 0, none⟩) l.length cap, .func (.func 95) #[] #[]] W fun e W' => e = .returned (.tuple #[]) ∧ Below base W W' ∧ OutB D W' (.slice (some ⟨g, 0, none⟩) l.length cap) l.length (insF c) ∧ Rowed base (.slice (some ⟨g, 0, none⟩) l.length cap) l W' ∧ ∀ b, b < W.heap.size → Value.ownBlock (.slice (some ⟨g, 0, none⟩) l.length cap) ≠ some b → W'.heap[b]? = W.heap[b]? := by
      rw [hsz] at hcon
      refine hcon.mono fun e w' h => ?_
      obtain ⟨he, d', n, os, h1, h2, rfl⟩ := h
      have hh := sorted_out (n := n) (os := os) hm hone hlen hnc (by rw [hsz]; exact h1) (by rw [hsz]; exact h2) hDl
      exact ⟨he, hh.1, hh.2, sorted_row hm (by rw [hsz]; exact h1)⟩
    clear hcon hm hone hb hcs htk hsz eg hnc hcm hg hlen
    go_enter Tryz.func71, Tryz.ntmps71
    go_wp2_with (go_at_call 94; refine hfin.mono ?_; rintro e w' ⟨rfl, hx⟩)
    go_end0
    exact ⟨rfl, hx⟩
/-- Each bind's term lies in new memory, its rows no wider than fifty. -/
def Fresh (D lo : Nat) (W : World) (l : List (Int × TV)) : Prop := ∀ p ∈ l, ∃ c, HoldsT D lo W p.2.val c ∧ ∀ x ∈ c, x.2.2.2 ≤ 50
theorem Fresh.tk {D lo : Nat} {A B : World} {l : List (Int × TV)} (h : Fresh D lo A l) (hk : TK lo A B) : Fresh D lo B l := fun p hp => by
  obtain ⟨c, h1, h2⟩ := h p hp
  exact ⟨c, h1.tk hk, h2⟩
/-- Behind the sort each term lies as it lay: the row is no row of terms. -/
theorem Fresh.sorted {D lo base : Nat} {S : Nat → Prop} {A B : World} {v : Value} {l : List (Int × TV)} {c : List (Int × List Nd)} (h : Fresh D lo A l) (hm : MadeB D S base A v l c) (hs : A.heap.size ≤ B.heap.size) (ho : ∀ b, b < A.heap.size → v.ownBlock ≠ some b → B.heap[b]? = A.heap[b]?) : Fresh D lo B l :=
  h.tk ⟨hs, fun b arr hb ha => ho b (Array.getElem?_eq_some_iff.1 ha).1 (fun e => by
    rcases hm.owns.2 with ⟨rfl, _⟩ | ⟨g, cap, cur, rfl, _, h2, _⟩
    · cases e
    · have e' : g = b := by simpa [Value.ownBlock] using e
      subst e'
      rw [h2] at ha
      simp at ha)⟩
theorem canB_of {D lo : Nat} {W : World} {v : Value} {l : List (Int × TV)} (hr : Rowed lo v l W) (hf : Fresh D lo W l) (hl : l.length ≤ 4194304) (hD : D ≤ 2199023255552) {a : Option Addr} {len cap : Nat} (hv : v = .slice a len cap) : CanB D lo W.heap.size W a len cap := by
  subst hv
  rcases hr with ⟨h, _⟩ | ⟨g, cp, h, h1, h2, h3, h4, h5⟩
  · simp at h
    exact .inl h
  · simp at h
    obtain ⟨rfl, rfl, rfl⟩ := h
    refine .inr ⟨g, rfl, h1, h2, h3, h4, hl, fun j hj => ?_⟩
    obtain ⟨p, hp, hc⟩ := h5 j hj
    obtain ⟨c, k1, k2⟩ := hf p hp
    obtain ⟨t, e1, e2, e3, e4⟩ := k1 D (Nat.le_refl _)
    have e5 := TV.val_inj e1
    rw [e5] at hc
    exact ⟨t, hc, e3.wh, e2 hD, tidy_of e3.wh (by rw [e4]; exact k2)⟩
end Go.Proofs.YtojefplapklbmaaGreatDoor

/- The contract of term.Match, told of the memory of what it answers. (Written by wip/newgen6.py off Ma.) -/
namespace Go.Proofs.YtojefplapklbmaaGreatDoor
open Go.RowKit Go.Shelf Go.Maps

theorem CanB.lower {n lo lo' hi : Nat} {W : World} {a : Option Addr} {len cap : Nat} (h : CanB n lo hi W a len cap) (hl : lo' ≤ lo) : CanB n lo' hi W a len cap := by
  rcases h with h | ⟨b, h1, h2, h3, h4, h5, h6, h7⟩
  · exact .inl h
  · refine .inr ⟨b, h1, Nat.le_trans hl h2, h3, h4, h5, h6, fun j hj => ?_⟩
    obtain ⟨t, k1, k2, k3, k4⟩ := h7 j hj
    exact ⟨t, k1, WhT.mono hl k2, k3, k4⟩
set_option maxRecDepth 100000 in
set_option maxHeartbeats 1000000 in
theorem match_new {n : Nat} (p t : Tm n) (w : World) (hp : IsT w.heap.size w p) (ht : IsT w.heap.size w t) (okp : okT p = true) (okt : okT t = true) (hbig : (code p).length ≤ 4194304) (hn40 : n ≤ 549755813888) :
    Calls Tryz.prog 28 #[p.tv.val, t.tv.val] w fun e W' => ∃ (la : Option Addr) (ll lc : Nat), e = .returned (.tuple #[.slice la ll lc, .bool (matT p t []).1, .int .i64 0]) ∧ Below w.heap.size w W' ∧ CanB (n + 1) w.heap.size W'.heap.size W' la ll lc := by
  have hc := checkTwo p t w hp ht
  have h0 : chkL [p, t] = 0 := chkL_yes (by simp [okp, okt])
  rw [h0] at hc
  have hcl := matT_len p t []
  have hcok := matT_ok p t [] okt (fun q hq => by cases hq)
  have hmat := fun (W : World) (hb : Below w.heap.size w W) => matches_any (D := n) (n₀ := w.heap.size) hp.lim n p t (W.alloc (.map #[] 0)) W.heap.size [] (Nat.le_refl _) (Met.made n w.heap.size W) (hp.below (hb.alloc hb.size _)) (ht.below (hb.alloc hb.size _)) hb.size okp
  obtain ⟨⟨f, c⟩, hR⟩ : ∃ R, matT p t [] = R := ⟨_, rfl⟩
  rw [hR] at hmat hcl hcok ⊢
  simp only [List.length_nil, Nat.zero_add] at hmat hcl hcok ⊢
  clear hR
  simp only [TV.val] at hmat hc ⊢
  have HMAT := hide hmat
  have HOK := hide hcok
  clear h0 okp okt hp ht hmat hcok
  go_enter Tryz.func28, Tryz.ntmps28
  go_wp2_with fail
  refine hc.mono ?_
  clear hc
  rintro e W2 ⟨rfl, hb2, bx, bby⟩
  have bx3 : BoxT (W2.alloc (.map #[] 0)) w.heap.size p.tv := bx.alloc _
  have by3 : BoxT (W2.alloc (.map #[] 0)) (w.heap.size + 1) t.tv := bby.alloc _
  have c0 := bx3.c0
  have c1 := bx3.c1
  have c2 := bx3.c2
  have c3 := bx3.c3
  have d0 := by3.c0
  have d1 := by3.c1
  have d2 := by3.c2
  have d3 := by3.c3
  clear bx bby bx3 by3
  have hmm := @run_makeMap Tryz.prog
  go_wp2_with fail
  clear hmm
  refine ((unhide HMAT) W2 hb2).mono ?_
  rintro e W4 ⟨rfl, hg4, hm4⟩
  clear HMAT c0 c1 c2 c3 d0 d1 d2 d3
  have hb4 : Below w.heap.size w W4 := (hb2.alloc hb2.size _).trans (grown_below hg4 hb2.size (by simp; have := hb2.size; omega))
  cases f with
  | false =>
    have HB4 := hide hb4
    clear hb4 hm4 hb2 hg4
    go_wp2_with fail
    exact bodyPost_ret (v := .tuple #[.slice none 0 0, .bool false, .int .i64 0]) (by simp [results, Tryz.results28, go_sem]) rfl ⟨none, 0, 0, rfl, unhide HB4, .inl ⟨rfl, rfl, rfl⟩⟩
  | true =>
    have hlt4 := hm4.lt
    have hw2 : w.heap.size ≤ W2.heap.size := hb2.size
    obtain ⟨E, e1, e2, e3⟩ := hm4.map
    have hone := hm4.once
    have hsz := e1.size_le
    clear hm4 hg4 hb2
    have HB4 := hide hb4
    have HE2 := hide e2
    have HE3 := hide e3
    have HON := hide hone
    clear hb4 e2 e3 hone
    go_wp2_with (first | (at_range; refine wpList_range_own _ rfl _ 104 rfl 2 24 Tryz.keyed2 Tryz.underlying104 _ W2.heap.size c.length E rfl e1 ?_; intro w0 hrg0 hg0 hs0) | go_in)
    go_frame
    go_loopw [9] (fun o wr => ∃ (left : Lit → Bool) (cnt : Nat) (l : List (Int × TV)) (cd : List (Int × List Nd)), wr.ranges Tryz.prog 2 termElem W2.heap.size W4.heap.size c.length E left cnt ∧ MadeB (n + 1) (W4.heap.size + 1 ≤ ·) (W4.heap.size + 1) wr o l cd ∧ l.length + cnt ≤ c.length ∧ Below W2.heap.size W4 wr ∧ Fresh (n + 1) (W4.heap.size + 1) wr l ∧ W4.heap.size + 1 ≤ wr.heap.size ∧
      Once cd ∧ (∀ q ∈ cd, q ∈ c ∧ left (.int .i64 q.1) = false) ∧ ∀ q ∈ c, left (.int .i64 q.1) = true ∨ q ∈ cd) (fun _ wr => wr.rangeLeft W2.heap.size W4.heap.size)
    case atStart =>
      refine ⟨_, _, [], [], hrg0, MadeB.zero _ _ _ _, by simpa using hsz, ⟨hg0.os, hg0.tape, hg0.output, hg0.size, fun k hk => hg0.block k (by omega) (by simp)⟩, (fun p hp => by cases hp), by omega, List.Pairwise.nil, (fun q hq => by cases hq), fun q hq => .inl (((unhide HE2) q.1).2 ⟨q, hq, rfl⟩)⟩
    case round =>
      obtain ⟨left, cnt, l, cd, hrg, hmd, hlc, hbr, hfr, hsr, hocd, hin, hout⟩ := hrel
      have HMD := hide hmd
      have HIN := hide (And.intro hocd (And.intro hin hout))
      clear hmd hocd hin hout
      go_wp2_with (first
        | (at_next; refine next_term _ rfl _ rfl W2.heap.size W4.heap.size c.length E left cnt rfl hrg ?_ ?_)
        | go_in)
      · intro hc0 hl0
        have hsame : insF cd = insF c := insF_same (unhide HIN).1 (unhide HON) fun q => ⟨fun hq => ((unhide HIN).2.1 q hq).1, fun hq => ((unhide HIN).2.2 q hq).resolve_left (by rw [hl0]; simp)⟩
        have hso := sortBinds_row u9 l cd wr (unhide HMD) (unhide HIN).1 (by omega)
        rw [hsame] at hso
        have HFR : Hid (∀ W5 : World, wr.heap.size ≤ W5.heap.size → (∀ b, b < wr.heap.size → u9.ownBlock ≠ some b → W5.heap[b]? = wr.heap[b]?) → Fresh (n + 1) (W4.heap.size + 1) W5 l) := fun W5 hs ho => hfr.sorted (unhide HMD) hs ho
        obtain ⟨la, lc, hv, -⟩ := (unhide HMD).isL (by omega)
        have HV := hide hv
        clear hv hsame hl0 hrg HMD HIN
        go_wp2_with fail
        refine hso.mono ?_
        clear hso
        rintro e W5 ⟨rfl, hb5, ho5, hrow5, hoth5⟩
        have HO := hide ((canB_of hrow5 (HFR.out W5 hb5.size hoth5) (by omega) (by omega) (unhide HV)).lower (lo' := w.heap.size) (by have := (unhide HB4).size; omega))
        clear ho5 hrow5 hoth5
        have hbf : Below w.heap.size w W5 := (unhide HB4).trans ((hbr.mono hw2).trans (hb5.mono (by have := (unhide HB4).size; omega)))
        have HBF := hide hbf
        clear hbf hb5
        go_wp2_with fail
        exact bodyPost_ret (v := .tuple #[u9, .bool true, .int .i64 0]) (by simp [results, Tryz.results28, go_sem]) rfl ⟨la, l.length, lc, by rw [unhide HV], unhide HBF, unhide HO⟩
      · intro N x w1 cnt1 hlx hat hrg1 hlt hg1 hs1 hen
        obtain ⟨q, hq, rfl⟩ := ((unhide HE2) N).1 (has_true_of_atKey hat)
        obtain ⟨x', hx1, hx2⟩ := (unhide HE3) q hq
        have hxx : x' = x := by
          have h1 := hx1 .nil
          rw [hat] at h1
          simpa using h1.symm
        subst hxx
        clear hx1 hat
        have hbr1 : Below W2.heap.size W4 w1 := hbr.trans ⟨hg1.os, hg1.tape, hg1.output, hg1.size, fun k hk => hg1.block k (by omega) (by simp; omega)⟩
        have hb5 : Below w1.heap.size w1 (w1.alloc (.cells #[.int .i64 x'.k, .int .i64 x'.N, .string x'.s, .slice x'.a x'.len x'.cap] 24)) := (Below.refl _ w1).alloc (Nat.le_refl _) _
        have hbx := BoxT.new w1 x'
        have hsz5 : (w1.alloc (.cells #[.int .i64 x'.k, .int .i64 x'.N, .string x'.s, .slice x'.a x'.len x'.cap] 24)).heap.size = w1.heap.size + 1 := by simp
        have hx1 : HoldsS n (· < w.heap.size) w1 x'.val q.2 := hx2.fromS (fun k hk _ => hbr1.block k (by omega)) hbr1.size
        have hmd1 := (unhide HMD).grown hg1 (by omega)
        obtain ⟨i0, hi, hz0, hz1, hz2⟩ := info_parts Tryz.info_bind
        have HQ := hide hq
        have HLX := hide hlx
        clear hx2 hq hlx HMD
        obtain ⟨t', ht1, ht2, -, ht4⟩ := (hx1.below hb5) n (Nat.le_refl _) (by omega)
        have hcp := copy_any t' _ ht2 (by rw [okT_code, ht4]; exact (unhide HOK) q (unhide HQ))
        rw [← ht1, ht4] at hcp
        simp only [TV.val] at hcp
        have x0 := hbx.c0
        have x1 := hbx.c1
        have x2 := hbx.c2
        have x3 := hbx.c3
        have HMD1 := hide hmd1
        clear ht1 ht2 ht4 hx1 hbx hmd1
        go_wp2_with fail
        refine hcp.mono ?_
        clear hcp
        rintro e W6 ⟨y, rfl, hb6, hy⟩
        obtain ⟨W5, hW5⟩ : ∃ W5, w1.alloc (.cells #[.int .i64 x'.k, .int .i64 x'.N, .string x'.s, .slice x'.a x'.len x'.cap] 24) = W5 := ⟨_, rfl⟩
        rw [hW5] at hb5 hsz5 hb6 hy x0 x1 x2 x3
        try rw [hW5]
        clear hW5 x0 x1 x2 x3
        have hb67 : Below W6.heap.size W6 (W6.alloc (.cells #[.int .i64 q.1, .int .i64 y.k, .int .i64 y.N, .string y.s, .slice y.a y.len y.cap] 82)) := (Below.refl _ W6).alloc (Nat.le_refl _) _
        have hb17 : Below w1.heap.size w1 (W6.alloc (.cells #[.int .i64 q.1, .int .i64 y.k, .int .i64 y.N, .string y.s, .slice y.a y.len y.cap] 82)) := (hb5.trans (hb6.mono hb5.size)).trans (hb67.mono (by have := hb5.size; have := hb6.size; omega))
        have hsz6 : w1.heap.size + 1 ≤ W6.heap.size := by have := hb6.size; omega
        have hgl : ∀ g, u9.ownBlock = some g → W4.heap.size + 1 ≤ g ∧ g < w1.heap.size := fun g hg => owns_lt (unhide HMD1).owns hg
        have hone : ∀ M, n + 1 ≤ M → M ≤ 2199023255552 → ∃ ks : List (Int × Tm M), ks.map (fun p => (p.1, p.2.tv)) = [(q.1, y)] ∧ (∀ p ∈ ks, IsT (W6.alloc (.cells #[.int .i64 q.1, .int .i64 y.k, .int .i64 y.N, .string y.s, .slice y.a y.len y.cap] 82)).heap.size (W6.alloc (.cells #[.int .i64 q.1, .int .i64 y.k, .int .i64 y.N, .string y.s, .slice y.a y.len y.cap] 82)) p.2 ∧ BlkT (fun b => u9.ownBlock ≠ some b ∧ W4.heap.size + 1 ≤ b) p.2) ∧ cb ks = [q] := fun M hM hlm => by
          obtain ⟨u, h1, h2, h3, h4⟩ := hy M hM
          have h2 := h2 hlm
          refine ⟨[(q.1, u)], by simp [← TV.val_inj (y := u.tv) h1], fun p hp => ?_, by simp [cb, h4]⟩
          simp at hp
          subst hp
          refine ⟨(h2.below hb67).mono hb67.size, h3.new.blk.mono fun b hb => ⟨fun e => ?_, ?_⟩⟩
          · have := (hgl b e).2
            have h7 : W5.heap.size ≤ b := hb
            omega
          · have h7 : W5.heap.size ≤ b := hb
            have := hbr1.size
            omega
        have hown7 := ((unhide HMD1).below hb17).owns
        have hsz1 : W4.heap.size + 1 ≤ w1.heap.size := by omega
        have hfn : Fresh (n + 1) (W4.heap.size + 1) (W6.alloc (.cells #[.int .i64 q.1, .int .i64 y.k, .int .i64 y.N, .string y.s, .slice y.a y.len y.cap] 82)) (l ++ [(q.1, y)]) := fun z hz => by
          rcases List.mem_append.1 hz with hz | hz
          · exact ((hfr.tk (TK.of_grown hg1 (fun g e hlo => by simp at e; omega))).tk (TK.of_below' hb17)) z hz
          · simp at hz
            subst hz
            exact ⟨q.2, (hy.mono (Nat.le_refl _) (by have := hbr1.size; omega)).tk (TK.of_below' hb67), fun x hx => nd50 (List.all_eq_true.1 ((unhide HOK) q (unhide HQ)) x hx)⟩
        have HFN := hide hfn
        clear hfn hfr
        have HO1 := hide hone
        have HO7 := hide hown7
        have HG := hide hgl
        clear hone hown7 hgl hy hen hg1 hs1 hbr
        go_wp2_with (at_builtin; go_must (refine wpList_append_own_at _ rfl _ _ 32 rfl (W4.heap.size + 1) 82 i0 _ 5 64 Tryz.underlying32 hi hz0 hz1 hz2 rfl (by decide) u9 l.length (l.flatMap bRow) rfl (unhide HO7) ⟨W6.heap.size, 0, none⟩ 1 1 ([(q.1, y)].flatMap bRow) rfl rfl (new_bind (W5 := W6) (V := q.1) (x := y)) (bRow_one _) (by unfold maxLen; omega) (by omega) (by simp; omega) ?_; intro v' w9 hown' hgrow hnil' hbk'))
        have hmade := (unhide HMD1).next hb17 (unhide HO1) hown' hgrow hbk'
        have hne : ∀ k, k < W4.heap.size + 1 → some k ≠ u9.ownBlock := fun k hk e => by have := ((unhide HG) k e.symm).1; omega
        have hrg9 := (hrg1.kept (row := none) ⟨hb17.os, hb17.tape, hb17.output, hb17.size, fun k hk _ => hb17.block k hk⟩ (by simp) (by simp)).kept hgrow (hne _ (by omega)) (hne _ (by omega))
        have hbr9 : Below W2.heap.size W4 w9 := (hbr1.trans (hb17.mono (by omega))).trans ⟨hgrow.os, hgrow.tape, hgrow.output, hgrow.size, fun k hk => hgrow.block k (by have := hb17.size; omega) (hne k (by omega))⟩
        have hsz9 : W4.heap.size + 1 ≤ w9.heap.size := by have := hgrow.size; have := hb17.size; omega
        have hfr9 : Fresh (n + 1) (W4.heap.size + 1) w9 (l ++ [(q.1, y)]) := (unhide HFN).tk (TK.of_grown hgrow (fun g e _ arr ha => by
          rcases (unhide HO7).2 with ⟨rfl, _⟩ | ⟨g', cap, cur, rfl, _, h2, _⟩
          · cases e
          · have e' : g' = g := by simpa [Value.ownBlock] using e
            subst e'
            rw [h2] at ha
            simp at ha))
        have HFR9 := hide hfr9
        clear hfr9 HFN
        have HMA := hide hmade
        have HRG := hide hrg9
        clear hmade hrg9 hown' hgrow hnil' hbk' hne hb17 hb67 hb6 hb5
        go_wp2_with fail
        go_roundw
        case rel =>
          obtain ⟨hocd, hin, hout⟩ := unhide HIN
          refine ⟨_, cnt1, _, _, unhide HRG, unhide HMA, by simp; omega, hbr9, unhide HFR9, hsz9, ?_, ?_, ?_⟩
          · unfold Once
            rw [List.pairwise_append]
            refine ⟨hocd, by simp, fun a ha b hb => ?_⟩
            simp at hb; subst hb
            intro e
            have := (hin a ha).2
            rw [e, unhide HLX] at this
            cases this
          · intro a ha
            rcases List.mem_append.1 ha with ha | ha
            · exact ⟨(hin a ha).1, by rw [(hin a ha).2]; rfl⟩
            · simp at ha; subst ha
              refine ⟨unhide HQ, ?_⟩
              rw [WideAt.sameKey_self (by trivial)]
              simp
          · intro a ha
            by_cases e : a.1 = q.1
            · exact .inr (by rw [Once.eq (unhide HON) ha (unhide HQ) e]; simp)
            · rcases hout a ha with h1 | h1
              · refine .inl ?_
                rw [h1, Maps.sameKey_ne (by simpa using e)]
                rfl
              · exact .inr (List.mem_append_left _ h1)
        case measure => rw [(unhide HRG).left_eq, hrg.left_eq]; omega
end Go.Proofs.YtojefplapklbmaaGreatDoor

