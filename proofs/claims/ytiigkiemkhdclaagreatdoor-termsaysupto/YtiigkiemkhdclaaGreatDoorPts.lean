import Derived.Test.YtiigkiemkhdclaaGreatDoorLms
import Derived.Test.YtiigkiemkhdclaaGreatDoorSws
/- The part at a path: the contracts of term.placeOf, term.At and hornref.At. -/
namespace Go.Proofs.YtiigkiemkhdclaaGreatDoor
open Go.RowKit Go.Shelf Go.Maps

/-- The part at a path. -/
def atT : List Int → {n : Nat} → Tm n → Option (Σ m, Tm m)
  | [], n, t => some ⟨n, t⟩
  | _ :: _, 0, t => Empty.elim t
  | k :: r, _ + 1, t => if 0 ≤ k ∧ k < (t.kids.length : Int) then (t.kids[k.toNat]?).bind fun u => atT r u else none
theorem atT_go {k : Int} {r : List Int} {n : Nat} {t : Tm (n + 1)} {u : Tm n} {j : Nat} (hk : k = (j : Nat)) (hu : t.kids[j]? = some u) : atT (k :: r) t = atT r u := by
  subst hk
  have hj := (List.getElem?_eq_some_iff.1 hu).1
  simp only [atT]
  rw [if_pos ⟨by omega, by omega⟩, Int.toNat_natCast, hu]
  rfl
theorem atT_no {k : Int} {r : List Int} {n : Nat} {t : Tm (n + 1)} (hk : ¬ (0 ≤ k ∧ k < (t.kids.length : Int))) : atT (k :: r) t = none := by
  simp only [atT]
  rw [if_neg hk]

/-- What placeOf answers. -/
def PlaceSays (n₀ : Nat) (W : World) (r : Option (Σ m, Tm m)) (e : Ending) : Prop :=
  (r = none ∧ e = .returned (.pointer none)) ∨ ∃ (m : Nat) (u : Tm m) (b o : Nat), r = some ⟨m, u⟩ ∧ e = .returned (.pointer (some ⟨b, o, none⟩)) ∧ cellsAt W b o u.tv ∧ IsT n₀ W u

set_option maxRecDepth 100000 in
set_option maxHeartbeats 2000000 in
theorem placeOf_any {n₀ n : Nat} (ns : List Int) (a : Option Addr) (len cap : Nat) (t : Tm n) (b o : Nat) (W : World) (hN : IsN W a len ns) (hc : cellsAt W b o t.tv) (hT : IsT n₀ W t) :
    Calls Tryz.prog 67 #[.pointer (some ⟨b, o, none⟩), .slice a len cap] W fun e W' => PlaceSays n₀ W (atT ns t) e ∧ W' = W := by
  have h1 := hN.1
  have h2 := hN.2.1
  have hl1 : len ≤ ns.length := by omega
  have hl2 : ns.length ≤ len := by omega
  clear h1
  have HN := hide hN
  clear hN
  go_enter Tryz.func67, Tryz.ntmps67
  go_wp2_with fail
  go_loop [0, 9] (fun p i => ∃ (j m : Nat) (u : Tm m) (b o : Nat), j ≤ len ∧ i = .int .i64 j ∧ p = .pointer (some ⟨b, o, none⟩) ∧ cellsAt W b o u.tv ∧ IsT n₀ W u ∧ atT ns t = atT (ns.drop j) u) (fun _ i => len - (intOf i).toNat)
  case atStart => exact ⟨0, n, t, b, o, Nat.zero_le _, rfl, rfl, hc, hT, rfl⟩
  case round =>
    obtain ⟨j, m, u, b, o, hj, rfl, rfl, hcu, hTu, hat⟩ := hrel
    by_cases hlt : j < len
    · obtain ⟨k, pb, off, hk, rfl, c0⟩ := num_at (unhide HN) hlt
      have hdrop : ns.drop j = k :: ns.drop (j + 1) := by
        obtain ⟨hj', hk'⟩ := List.getElem?_eq_some_iff.1 hk
        rw [List.drop_eq_getElem_cons hj', hk']
      rw [hdrop] at hat
      have hj1 : (j : Int) < len := by omega
      cases m with
      | zero => exact Empty.elim u
      | succ m =>
        obtain ⟨⟨uk, uN, us, ua, ul, uc⟩, kids⟩ := u
        obtain ⟨d0, d1, d2, d3⟩ := hcu
        obtain ⟨hlen, hmax, hsm, hkids⟩ := hTu
        simp only [Tm.tv, Tm.kids] at hlen hmax hkids d3
        by_cases hin : 0 ≤ k ∧ k < (ul : Int)
        · obtain ⟨q, hq⟩ : ∃ q : Nat, k = (q : Nat) := ⟨k.toNat, by omega⟩
          subst hq
          have hql : q < kids.length := by omega
          obtain ⟨z, hz⟩ : ∃ z, kids[q]? = some z := ⟨kids[q], List.getElem?_eq_getElem hql⟩
          have hne : kids ≠ [] := by rintro rfl; simp at hz
          obtain ⟨bk, ok, rfl, hbk, hkk⟩ := hkids.resolve_left hne
          obtain ⟨hcz, hTz⟩ := hkk q z hz
          have hnx : atT ns t = atT (ns.drop (j + 1)) z := hat.trans (atT_go rfl hz)
          have hq1 : (q : Int) < ul := by omega
          have hq0 : ¬ (q : Int) < 0 := by omega
          have hq2 : q < ul := by omega
          have HX := hide (And.intro hcz (And.intro hTz hnx))
          clear hcz hTz hnx hkk hkids hz hne hat hdrop hin hsm d0 d1 d2
          go_wp2_with fail
          exact ⟨⟨j + 1, m, z, bk, ok + q * 4, by omega, by go_num, rfl, (unhide HX).1, (unhide HX).2.1, (unhide HX).2.2⟩, by simp [intOf]; omega⟩
        · have hno : atT ns t = none := hat.trans (atT_no (by simpa [Tm.kids, ← hlen] using hin))
          have HNO := hide hno
          clear hno hat hdrop hkids hsm d0 d1 d2
          by_cases hk0 : k < 0
          · go_wp2_with fail
            go_ret
            exact ⟨.inl ⟨unhide HNO, rfl⟩, rfl⟩
          · have hk1 : (ul : Int) ≤ k := by omega
            go_wp2_with fail
            go_ret
            exact ⟨.inl ⟨unhide HNO, rfl⟩, rfl⟩
    · have hd : ns.drop j = [] := List.drop_of_length_le (by omega)
      rw [hd] at hat
      have HAT := hide hat
      clear hat hd
      go_wp2_with fail
      go_ret
      exact ⟨.inr ⟨m, u, b, o, (unhide HAT), rfl, hcu, hTu⟩, rfl⟩

theorem atT_ok : ∀ (ns : List Int) {n : Nat} {t : Tm n} {m : Nat} {u : Tm m}, okT t = true → atT ns t = some ⟨m, u⟩ → okT u = true
  | [], n, t, m, u, h, e => by
    simp only [atT, Option.some.injEq, Sigma.mk.injEq] at e
    obtain ⟨rfl, e⟩ := e
    cases e
    exact h
  | k :: r, 0, t, _, _, _, _ => Empty.elim t
  | k :: r, n + 1, t, m, u, h, e => by
    simp only [atT] at e
    split at e
    · cases hz : t.kids[k.toNat]? with
      | none => rw [hz] at e; cases e
      | some z =>
        rw [hz] at e
        exact atT_ok r (ok_kids' h z (List.mem_of_getElem? hz)) e
    · cases e
theorem atT_isT {n₀ : Nat} {W : World} : ∀ (ns : List Int) {n : Nat} {t : Tm n} {m : Nat} {u : Tm m}, IsT n₀ W t → atT ns t = some ⟨m, u⟩ → IsT n₀ W u
  | [], n, t, m, u, h, e => by
    simp only [atT, Option.some.injEq, Sigma.mk.injEq] at e
    obtain ⟨rfl, e⟩ := e
    cases e
    exact h
  | k :: r, 0, t, _, _, _, _ => Empty.elim t
  | k :: r, n + 1, t, m, u, h, e => by
    simp only [atT] at e
    split at e
    · cases hz : t.kids[k.toNat]? with
      | none => rw [hz] at e; cases e
      | some z =>
        rw [hz] at e
        obtain ⟨_, _, _, h4⟩ := h
        have hne : t.kids ≠ [] := fun e' => by rw [e'] at hz; simp at hz
        obtain ⟨b, off, _, _, hk⟩ := h4.resolve_left hne
        exact atT_isT r (hk _ z hz).2 e
    · cases e
theorem atT_parts : ∀ (ns : List Int) {n : Nat} {t : Tm n} {m : Nat} {u : Tm m}, atT ns t = some ⟨m, u⟩ → (parts u).length ≤ (parts t).length
  | [], n, t, m, u, e => by
    simp only [atT, Option.some.injEq, Sigma.mk.injEq] at e
    obtain ⟨rfl, e⟩ := e
    cases e
    exact Nat.le_refl _
  | k :: r, 0, t, _, _, _ => Empty.elim t
  | k :: r, n + 1, t, m, u, e => by
    simp only [atT] at e
    split at e
    · cases hz : t.kids[k.toNat]? with
      | none => rw [hz] at e; cases e
      | some z =>
        rw [hz] at e
        have h1 := atT_parts r e
        have h2 := pre_parts t.kids _ z hz
        have h3 : (parts t).length = (t.kids.flatMap parts).length + 1 := by simp [parts]
        omega
    · cases e
def zeroT : TV := ⟨0, 0, ⟨#[]⟩, none, 0, 0⟩

set_option maxRecDepth 100000 in
set_option maxHeartbeats 1000000 in
theorem at_bad {n : Nat} (t : Tm n) (a : Option Addr) (len cap : Nat) (w : World) (hT : IsT w.heap.size w t) (hok : okT t = false) :
    Calls Tryz.prog 21 #[t.tv.val, .slice a len cap] w fun e W' => e = .returned (.tuple #[zeroT.val, .int .i64 2]) ∧ Below w.heap.size w W' := by
  have hH := Head.new w t.tv
  have hB1 : Below w.heap.size w ((w.alloc (.cells #[.int .i64 t.tv.k, .int .i64 t.tv.N, .string t.tv.s, .slice t.tv.a t.tv.len t.tv.cap] 24)).alloc (.cells #[.int .i64 0, .int .i64 0, .string ⟨#[]⟩, .slice none 0 0] 24)) := ((Below.refl _ w).alloc (Nat.le_refl _) _).alloc (by simp) _
  have hck := check_any t _ ((hT.below hB1).mono hB1.size)
  rw [chk_no hok] at hck
  simp only [TV.val, zeroT] at hck ⊢
  clear hT hok hB1
  go_enter Tryz.func21, Tryz.ntmps21
  go_wp2_with fail
  refine hck.mono ?_
  clear hck
  rintro e W1 ⟨rfl, hb1⟩
  replace hH := hH.next hb1
  clear hb1
  obtain ⟨⟨z0, z1, z2, z3⟩, y0, y1, y2, y3⟩ := zbox_kept hH.bz
  have hbf := set4_below hH.below (b := w.heap.size + 1) (by omega) 0 zeroT
  unfold zeroT at hbf
  have HF := hide hbf
  clear hbf hH
  go_wp2_with fail
  exact bodyPost_ret (v := .tuple #[.agg #[.int .i64 0, .int .i64 0, .string ⟨#[]⟩, .slice none 0 0], .int .i64 2]) (by simp [results, Tryz.results21, go_sem, z0, z1, z2, z3]) rfl ⟨rfl, unhide HF⟩

/-- What At answers, of a term. -/
def AtSays (lo : Nat) (W' : World) (r : Option (Σ m, Tm m)) (x : TV) (e : Int) : Prop :=
  (r = none ∧ x = zeroT ∧ e = 8) ∨ ∃ (m : Nat) (u : Tm m), r = some ⟨m, u⟩ ∧ e = 0 ∧ HoldsT (m + 1) lo W' x.val (code u)

set_option maxRecDepth 100000 in
set_option maxHeartbeats 2000000 in
theorem at_any {n : Nat} (t : Tm n) (ns : List Int) (a : Option Addr) (len cap : Nat) (w : World) (hT : IsT w.heap.size w t) (hok : okT t = true) (hN : IsN w a len ns) :
    Calls Tryz.prog 21 #[t.tv.val, .slice a len cap] w fun e W' => ∃ (x : TV) (r : Int), e = .returned (.tuple #[x.val, .int .i64 r]) ∧ Below w.heap.size w W' ∧ AtSays w.heap.size W' (atT ns t) x r := by
  have hH := Head.new w t.tv
  have hB1 : Below w.heap.size w ((w.alloc (.cells #[.int .i64 t.tv.k, .int .i64 t.tv.N, .string t.tv.s, .slice t.tv.a t.tv.len t.tv.cap] 24)).alloc (.cells #[.int .i64 0, .int .i64 0, .string ⟨#[]⟩, .slice none 0 0] 24)) := ((Below.refl _ w).alloc (Nat.le_refl _) _).alloc (by simp) _
  have hck := check_any t _ ((hT.below hB1).mono hB1.size)
  rw [chk_yes hok] at hck
  have hpl := fun (W : World) (hb : Below w.heap.size w W) (hx : BoxT W w.heap.size t.tv) => placeOf_any (n₀ := w.heap.size) ns a len cap t w.heap.size 0 W (hN.below hb) ⟨hx.c0, hx.c1, hx.c2, hx.c3⟩ (hT.below hb)
  have hoku := fun m u => atT_ok ns (t := t) (m := m) (u := u) hok
  generalize atT ns t = r at *
  have HPL := hide hpl
  have HOU := hide hoku
  simp only [TV.val] at hck ⊢
  clear hT hok hB1 hN hpl hoku
  go_enter Tryz.func21, Tryz.ntmps21
  go_wp2_with fail
  refine hck.mono ?_
  clear hck
  rintro e W1 ⟨rfl, hb1⟩
  replace hH := hH.next hb1
  clear hb1
  have hp1 := (unhide HPL) W1 hH.below hH.ba
  go_wp2_with fail
  refine hp1.mono ?_
  clear hp1
  rintro e W2 ⟨hps, rfl⟩
  rcases hps with ⟨rfl, rfl⟩ | ⟨m, u, b, o, rfl, rfl, hcu, hTu⟩
  · obtain ⟨⟨z0, z1, z2, z3⟩, y0, y1, y2, y3⟩ := zbox_kept hH.bz
    have hbf := set4_below hH.below (b := w.heap.size + 1) (by omega) 0 zeroT
    unfold zeroT at hbf
    have HF := hide hbf
    clear hbf hH
    go_wp2_with fail
    exact bodyPost_ret (v := .tuple #[.agg #[.int .i64 0, .int .i64 0, .string ⟨#[]⟩, .slice none 0 0], .int .i64 8]) (by simp [results, Tryz.results21, go_sem, z0, z1, z2, z3]) rfl ⟨zeroT, 8, rfl, unhide HF, .inl ⟨rfl, rfl, rfl⟩⟩
  · have hTs : IsT W2.heap.size W2 u := hTu.mono hH.below.size
    have hcp := copy_any u W2 hTs ((unhide HOU) m u rfl)
    obtain ⟨c0, c1, c2, c3⟩ := hcu
    have HH := hide hH
    simp only [TV.val] at hcp
    clear hTu hTs hH
    go_wp2_with fail
    refine hcp.mono ?_
    clear hcp
    rintro e W3 ⟨x, rfl, hb3, hx⟩
    have hlt2 := (unhide HH).lt
    have hH := (unhide HH).next hb3
    obtain ⟨⟨z0, z1, z2, z3⟩, y0, y1, y2, y3⟩ := zbox_kept hH.bz
    have hfin := (holds_set4 hx (b := w.heap.size + 1) hlt2 0 x).mono (lo' := w.heap.size) (Nat.le_refl _) (by omega)
    have hbf := set4_below hH.below (b := w.heap.size + 1) (by omega) 0 x
    have HF := hide (And.intro hbf hfin)
    clear hfin hbf hx hH hb3 c0 c1 c2 c3
    go_wp2_with fail
    exact bodyPost_ret (v := .tuple #[x.val, .int .i64 0]) (by simp [results, Tryz.results21, go_sem, TV.val, z0, z1, z2, z3]) rfl ⟨x, 0, rfl, (unhide HF).1, .inr ⟨m, u, rfl, rfl, (unhide HF).2⟩⟩

set_option maxRecDepth 100000 in
set_option maxHeartbeats 2000000 in
theorem rat_any : ∀ (ns : List Int) (n : Nat) (t : Tm n) (a : Option Addr) (len cap : Nat) (W : World), IsN W a len ns → len ≤ cap → IsT W.heap.size W t →
    Calls Tryz.prog 40 #[t.tv.val, .slice a len cap] W fun e W' => Below W.heap.size W W' ∧ ((atT ns t = none ∧ e = .returned (.tuple #[zeroT.val, .bool false])) ∨ ∃ (m : Nat) (u : Tm m), atT ns t = some ⟨m, u⟩ ∧ e = .returned (.tuple #[u.tv.val, .bool true])) := by
  intro ns
  induction ns with
  | nil =>
    intro n t a len cap W hN hcap hT
    have hl0 : len = 0 := hN.1
    subst hl0
    have hH := Head.new W t.tv
    clear hT hN
    simp only [TV.val, zeroT]
    go_enter Tryz.func40, Tryz.ntmps40
    have hfin : Below W.heap.size W ((W.alloc (.cells #[.int .i64 t.tv.k, .int .i64 t.tv.N, .string t.tv.s, .slice t.tv.a t.tv.len t.tv.cap] 24)).alloc (.cells #[.int .i64 t.tv.k, .int .i64 t.tv.N, .string t.tv.s, .slice t.tv.a t.tv.len t.tv.cap] 24)) := ((Below.refl _ W).alloc (Nat.le_refl _) _).alloc (by simp) _
    clear hH
    go_wp2_with fail
    exact bodyPost_ret (v := .tuple #[t.tv.val, .bool true]) (by simp [results, Tryz.results40, go_sem, TV.val]) rfl ⟨hfin, .inr ⟨n, t, rfl, rfl⟩⟩
  | cons k r ih =>
    intro n t a len cap W hN hcap hT
    cases n with
    | zero => exact Empty.elim t
    | succ n =>
      have hl0 : len = r.length + 1 := by have := hN.1; simpa using this
      obtain ⟨k', pb, off, hk', rfl, p0⟩ := num_at hN (j := 0) (by omega)
      simp at hk'
      subst hk'
      have hN' : IsN W (if cap = 1 then some ⟨pb, off, none⟩ else some ⟨pb, off + 1, none⟩) (len - 1) r := by
        obtain ⟨g1, g2, g3⟩ := hN
        refine ⟨by omega, by omega, ?_⟩
        by_cases hc1 : cap = 1
        · exact .inl (List.length_eq_zero_iff.1 (by omega))
        · rw [if_neg hc1]
          obtain ⟨b, o, he, hlt, hk⟩ := g3.resolve_left (by simp)
          simp at he
          obtain ⟨rfl, rfl⟩ := he
          exact .inr ⟨pb, off + 1, rfl, hlt, fun j N hj => by have := hk (j + 1) N (by simpa using hj); rwa [show off + (j + 1) = off + 1 + j by omega] at this⟩
      obtain ⟨A, hA⟩ : ∃ A, (if cap = 1 then some (⟨pb, off, none⟩ : Addr) else some ⟨pb, off + 1, none⟩) = A := ⟨_, rfl⟩
      rw [hA] at hN'
      have hpb : pb < W.heap.size := by
        obtain ⟨_, _, g3⟩ := hN
        obtain ⟨b, o, he, hlt, _⟩ := g3.resolve_left (by simp)
        simp at he
        omega
      have hH := Head.new W t.tv
      obtain ⟨W1, hW1⟩ : ∃ W1, (W.alloc (.cells #[.int .i64 t.tv.k, .int .i64 t.tv.N, .string t.tv.s, .slice t.tv.a t.tv.len t.tv.cap] 24)).alloc (.cells #[.int .i64 0, .int .i64 0, .string ⟨#[]⟩, .slice none 0 0] 24) = W1 := ⟨_, rfl⟩
      rw [hW1] at hH
      have hbw := hH.below
      have p1 : W1.cell? ⟨pb, off, none⟩ = some (.int .i64 k) := by
        have := (hbw.cell (p := ⟨pb, off, none⟩) hpb).trans p0
        simpa using this
      have x3 := hH.ba.c3
      obtain ⟨⟨z0, z1, z2, z3⟩, y0, y1, y2, y3⟩ := zbox_kept hH.bz
      have hzb := hH.bz
      obtain ⟨⟨tk, tN, ts, ta, tl, tc⟩, kids⟩ := t
      obtain ⟨hlen, hmax, hsm, hkids⟩ := hT
      simp only [Tm.tv, Tm.kids] at hlen hmax hsm hkids x3 hW1
      have hl1 : (0 : Int) < len := by omega
      have hl0n : 0 < len := by omega
      have hlz : ((len : Int) == 0) = false := by simp; omega
      have hle1 : (1 : Int) ≤ len := by omega
      have HN := hide hN'
      have HI := hide ih
      have HH := hide hH
      simp only [TV.val, zeroT, Tm.tv]
      by_cases hin : 0 ≤ k ∧ k < (tl : Int)
      · obtain ⟨q, hq⟩ : ∃ q : Nat, k = (q : Nat) := ⟨k.toNat, by omega⟩
        subst hq
        obtain ⟨z, hz⟩ : ∃ z, kids[q]? = some z := ⟨kids[q]'(by omega), List.getElem?_eq_getElem (by omega)⟩
        have hne : kids ≠ [] := by rintro rfl; simp at hz
        obtain ⟨bk, ok, rfl, hbk, hkk⟩ := hkids.resolve_left hne
        obtain ⟨⟨c0, c1, c2, c3⟩, hTz⟩ := hkk q z hz
        replace c0 : W1.cell? ⟨bk, ok + q * 4, none⟩ = some (.int .i64 z.tv.k) := (hbw.cell (p := ⟨bk, ok + q * 4, none⟩) hbk).trans c0
        replace c1 : W1.cell? ⟨bk, ok + q * 4 + 1, none⟩ = some (.int .i64 z.tv.N) := (hbw.cell (p := ⟨bk, ok + q * 4 + 1, none⟩) hbk).trans c1
        replace c2 : W1.cell? ⟨bk, ok + q * 4 + 2, none⟩ = some (.string z.tv.s) := (hbw.cell (p := ⟨bk, ok + q * 4 + 2, none⟩) hbk).trans c2
        replace c3 : W1.cell? ⟨bk, ok + q * 4 + 3, none⟩ = some (.slice z.tv.a z.tv.len z.tv.cap) := (hbw.cell (p := ⟨bk, ok + q * 4 + 3, none⟩) hbk).trans c3
        have hat : atT ((q : Int) :: r) (n := n + 1) ((⟨tk, tN, ts, some ⟨bk, ok, none⟩, tl, tc⟩, kids) : TV × List (Tm n)) = atT r z := atT_go rfl hz
        have HAT := hide hat
        have hq1 : (q : Int) < tl := by omega
        have hq0 : ¬ (q : Int) < 0 := by omega
        have hq2 : ¬ (tl : Int) ≤ q := by omega
        have hq3 : decide ((q : Int) < 0) = false := decide_eq_false hq0
        have hq4 : decide (tl ≤ q) = false := decide_eq_false (by omega)
        have hq5 : decide ((tl : Int) ≤ (q : Int)) = false := decide_eq_false hq2
        have hq6 : q < tl := by omega
        have hdr2 : Below W.heap.size W W1.drew.drew := hbw.drew.drew
        have ihz := ((unhide HI) n z A (len - 1) (cap - 1) W1.drew.drew ((unhide HN).below hdr2) (by omega) ((hTz.below hdr2).mono hdr2.size)).mono (R' := fun e W2 => Below W1.heap.size W1 W2 ∧ ∃ (x : TV) (f : Bool), e = .returned (.tuple #[x.val, .bool f]) ∧ ((atT r z = none ∧ x = zeroT ∧ f = false) ∨ ∃ (m : Nat) (u : Tm m), atT r z = some ⟨m, u⟩ ∧ x = u.tv ∧ f = true)) (fun e W2 h => by
          obtain ⟨g1, g2⟩ := h
          refine ⟨(Below.refl _ W1).drew.drew.trans g1, ?_⟩
          rcases g2 with ⟨g2, g3⟩ | ⟨m, u, g2, g3⟩
          · exact ⟨zeroT, false, g3, .inl ⟨g2, rfl, rfl⟩⟩
          · exact ⟨u.tv, true, g3, .inr ⟨m, u, g2, rfl, rfl⟩⟩)
        simp only [TV.val] at ihz
        have hy0 : W.heap.size < W1.heap.size := hH.ba.lt
        have hy1 : W.heap.size + 1 < W1.heap.size := hH.lt
        have hy2 : pb < W1.heap.size := Nat.lt_of_lt_of_le hpb hbw.size
        have hy3 : bk < W1.heap.size := Nat.lt_of_lt_of_le hbk hbw.size
        have hsl : len ≤ cap := hcap
        have hn1 : W.heap.size + 1 ≠ pb := by omega
        have hn2 : W.heap.size + 1 ≠ bk := by omega
        have hn3 : W.heap.size + 1 ≠ W.heap.size := by omega
        clear hkids hkk hTz hz hne hat hin hH hN hN' ih hlen hl0 hdr2 p0 y0 y1 y2 y3
        go_enter Tryz.func40, Tryz.ntmps40
        go_wp2_with fail
        clear hW1
        go_region
        go_wp2_with fail
        go_region_held3 (fun w' => w'.cell? ⟨W.heap.size, 3, none⟩ = some (.slice (some ⟨bk, ok, none⟩) tl tc) ∧ w'.cell? ⟨pb, off, none⟩ = some (.int .i64 (q : Int)) ∧ w'.cell? ⟨bk, ok + q * 4, none⟩ = some (.int .i64 z.tv.k) ∧ w'.cell? ⟨bk, ok + q * 4 + 1, none⟩ = some (.int .i64 z.tv.N) ∧ w'.cell? ⟨bk, ok + q * 4 + 2, none⟩ = some (.string z.tv.s) ∧ w'.cell? ⟨bk, ok + q * 4 + 3, none⟩ = some (.slice z.tv.a z.tv.len z.tv.cap)) (go_keep)
          (first | (go_at_call 40; refine ihz.mono ?_; clear ihz; rintro e W5 ⟨hb5, x, f, rfl, hx⟩; have HX := hide hx; clear hx; have hbd := bcell hb5; obtain ⟨-, y0, y1, y2, y3⟩ := zbox_kept ((hb5.block (W.heap.size + 1) hy1).trans hzb)))
        have hB5 : Below W.heap.size W W5 := hbw.trans (hb5.mono hbw.size)
        have hbf : Below W.heap.size W (set4 W5 (W.heap.size + 1) 0 x) := set4_below hB5 (by omega) 0 x
        obtain ⟨⟨q0, q1, q2, q3⟩, -⟩ := zbox_kept ((hb5.block (W.heap.size + 1) hy1).trans hzb)
        have HF := hide hbf
        clear hbf hB5 hb5 hbd z0 z1 z2 z3
        go_wp2_with fail
        refine bodyPost_ret (v := .tuple #[x.val, .bool f]) (by simp [results, Tryz.results40, go_sem, TV.val, q0, q1, q2, q3]) rfl ⟨unhide HF, ?_⟩
        rw [unhide HAT]
        rcases unhide HX with ⟨g1, rfl, rfl⟩ | ⟨m, u, g1, rfl, rfl⟩
        · exact .inl ⟨g1, rfl⟩
        · exact .inr ⟨m, u, g1, rfl⟩
      · have hno : atT (k :: r) (n := n + 1) ((⟨tk, tN, ts, ta, tl, tc⟩, kids) : TV × List (Tm n)) = none := atT_no (by simpa [Tm.kids, ← hlen] using hin)
        have HNO := hide hno
        have hbf := set4_below (hbw.drew) (b := W.heap.size + 1) (by omega) 0 zeroT
        unfold zeroT at hbf
        have HF := hide hbf
        by_cases hk0 : k < 0
        · have hk0' : decide (k < 0) = true := decide_eq_true hk0
          clear hkids hN hN' ih hlen hl0 hin hno hbf hbw hH p0
          go_enter Tryz.func40, Tryz.ntmps40
          go_wp2_with fail
          clear hW1
          go_region
          go_wp2_with fail
          exact bodyPost_ret (v := .tuple #[zeroT.val, .bool false]) (by simp [results, Tryz.results40, go_sem, TV.val, zeroT, z0, z1, z2, z3]) rfl ⟨unhide HF, .inl ⟨unhide HNO, rfl⟩⟩
        · have hk1 : (tl : Int) ≤ k := by omega
          have hk0' : decide (k < 0) = false := decide_eq_false hk0
          have hk1' : decide ((tl : Int) ≤ k) = true := decide_eq_true hk1
          clear hkids hN hN' ih hlen hl0 hin hno hbf hbw hH p0
          go_enter Tryz.func40, Tryz.ntmps40
          go_wp2_with fail
          clear hW1
          go_region
          go_wp2_with fail
          exact bodyPost_ret (v := .tuple #[zeroT.val, .bool false]) (by simp [results, Tryz.results40, go_sem, TV.val, zeroT, z0, z1, z2, z3]) rfl ⟨unhide HF, .inl ⟨unhide HNO, rfl⟩⟩
end Go.Proofs.YtiigkiemkhdclaaGreatDoor

/- The contracts of hornref.laid, whatever the terms, and of hornref.General: the document's generalization is ours (lgg). -/
namespace Go.Proofs.YtiigkiemkhdclaaGreatDoor
open Go.RowKit Go.Shelf Go.Maps

theorem apart_nd {x y x' y' : TV} (h1 : x.nd = x'.nd) (h2 : y.nd = y'.nd) : apart x y = apart x' y' := by
  have hk : x.k = x'.k := congrArg Prod.fst h1
  have hs : stop x y = stop x' y' := by
    rw [Bool.eq_iff_iff, ← nd_stop, ← nd_stop, h1, h2]
  unfold apart
  rw [hk, hs]
/-- All pairs of a list have nothing in common at the top. -/
def AllApart (cs : List Pr) : Prop := ∀ q ∈ cs, ∃ (n : Nat) (p r : Tm (n + 1)), q = (code p, code r) ∧ apart p.tv r.tv = true
theorem zf_all {n : Nat} {P : Pr → Prop} (hf : ∀ a b : Tm n, ∀ q ∈ prs a b, P q) : ∀ (a b : List (Tm n)), ∀ q ∈ zf prs a b, P q
  | [], _, q, h => by simp [zf] at h
  | _ :: _, [], q, h => by simp [zf] at h
  | x :: a, y :: b, q, h => by
    simp only [zf, List.mem_append] at h
    rcases h with h | h
    · exact hf x y q h
    · exact zf_all hf a b q h
theorem prs_allApart : ∀ {n : Nat} (a b : Tm n), AllApart (prs a b) := by
  intro n
  induction n with
  | zero => intro a; exact Empty.elim a
  | succ n ih =>
    intro a b
    cases h : apart a.tv b.tv with
    | true =>
      rw [prs_apart h]
      intro q hq
      simp at hq
      exact ⟨n, a, b, hq, h⟩
    | false =>
      rw [prs_like h]
      exact zf_all (P := fun q => ∃ (n : Nat) (p r : Tm (n + 1)), q = (code p, code r) ∧ apart p.tv r.tv = true) ih a.kids b.kids
theorem notin_like {cs : List Pr} (h : AllApart cs) {n : Nat} {x y : Tm (n + 1)} (hl : apart x.tv y.tv = false) : (code x, code y) ∉ cs := fun hm => by
  obtain ⟨m, p, r, hq, hp⟩ := h _ hm
  have h1 := congrArg Prod.fst hq
  have h2 := congrArg Prod.snd hq
  simp only at h1 h2
  rw [code_kids x, code_kids p] at h1
  rw [code_kids y, code_kids r] at h2
  simp only [List.cons.injEq] at h1 h2
  rw [apart_nd h1.1 h2.1, hp] at hl
  cases hl
theorem prs_kid {n : Nat} {x y : Tm (n + 1)} (hl : apart x.tv y.tv = false) {j : Nat} {u v : Tm n} (hu : x.kids[j]? = some u) (hv : y.kids[j]? = some v) : ∀ q ∈ prs u v, q ∈ prs x y := fun q hq => by
  rw [prs_like hl]
  have h1 := zfU_take (f := prs) x.kids y.kids j u v hu hv
  have h2 : ∀ (a b : List (Tm n)) (i : Nat), ∀ q ∈ zf prs (a.take i) (b.take i), q ∈ zf prs a b := by
    intro a
    induction a with
    | nil => intro b i q h; simp [zf] at h
    | cons z a ih =>
      intro b i q h
      cases b with
      | nil => simp [zf] at h
      | cons z' b =>
        cases i with
        | zero => simp [zf] at h
        | succ i =>
          simp only [List.take_succ_cons, zf, List.mem_append] at h ⊢
          rcases h with h | h
          · exact .inl h
          · exact .inr (ih b i q h)
  refine h2 _ _ (j + 1) q ?_
  rw [h1]
  exact List.mem_append.2 (.inr hq)

set_option maxRecDepth 100000 in
set_option maxHeartbeats 1000000 in
theorem laid_var {n : Nat} (la : Option Addr) (ll lc : Nat) (x y : Tm n) (i : Nat) (W : World)
    (hnt : ∀ W2, Below W.heap.size W W2 → Calls Tryz.prog 81 #[.slice la ll lc, x.tv.val, y.tv.val] W2 fun e W3 => e = .returned (.int .i64 (i : Nat)) ∧ Below W2.heap.size W2 W3) :
    Calls Tryz.prog 82 #[x.tv.val, y.tv.val, .slice la ll lc] W (LaidSays 1 W [varNd (i : Nat)]) := by
  obtain ⟨W3, hW3, hB3, hba, hbb, hbz, hsz⟩ := three_z W x.tv y.tv
  have hn3 := hnt W3 hB3
  have b0 := hba.c0
  have b1 := hba.c1
  have b2 := hba.c2
  have b3 := hba.c3
  have d0 := hbb.c0
  have d1 := hbb.c1
  have d2 := hbb.c2
  have d3 := hbb.c3
  have HB3 := hide hB3
  have HBZ := hide hbz
  have HSZ := hide hsz
  clear hB3 hba hbb hbz hsz hnt
  simp only [TV.val] at hn3 ⊢
  go_enter Tryz.func82, Tryz.ntmps82
  go_wp2_with fail
  refine hn3.mono ?_
  clear hn3 b0 b1 b2 b3 d0 d1 d2 d3 hW3
  rintro e W4 ⟨rfl, hb4⟩
  have hB4 : Below W.heap.size W W4 := (unhide HB3).trans (hb4.mono (unhide HB3).size)
  have hbz4 := (hb4.block (W.heap.size + 2) (by have := unhide HSZ; omega)).trans (unhide HBZ)
  have hs4 : W.heap.size + 2 < W4.heap.size := (Array.getElem?_eq_some_iff.1 hbz4).1
  have hv := v_any (i : Nat) W4
  simp only [TV.val, varV] at hv
  have HB4 := hide hB4
  have HBZ4 := hide hbz4
  clear hb4 hB4 hbz4 HB3 HBZ HSZ
  go_wp2_with fail
  refine hv.mono ?_
  clear hv
  rintro e W5 ⟨rfl, hb5⟩
  obtain ⟨⟨z0, z1, z2, z3⟩, y0, y1, y2, y3⟩ := zbox_kept ((hb5.block (W.heap.size + 2) hs4).trans (unhide HBZ4))
  have hfin : HoldsS 1 (Mix 0 W.heap.size) (set4 W5 (W.heap.size + 2) 0 (varV (i : Nat))) (varV (i : Nat)).val [varNd (i : Nat)] := (varV_holds (i : Nat) W.heap.size _).holdsS.mono (Nat.le_refl _) (fun b hb => .inr hb)
  have hbf : Below W.heap.size W (set4 W5 (W.heap.size + 2) 0 (varV (i : Nat))) := set4_below ((unhide HB4).trans (hb5.mono (unhide HB4).size)) (by omega) 0 _
  have HF := hide hfin
  have HBF := hide hbf
  clear hfin hbf hb5
  go_wp2_with fail
  refine bodyPost_ret (v := (varV (i : Nat)).val) ?_ rfl ⟨_, rfl, unhide HBF, unhide HF⟩
  simp [results, Tryz.results82, go_sem, TV.val, varV, z0, z1, z2, z3]

/-- hornref.laid, whatever the terms. -/
theorem laid_any {m : Nat} (ps : List (Tm m × Tm m)) (la : Option Addr) (ll lc : Nat) (hap : AllApart (cpP ps)) : ∀ (n : Nat) (x y : Tm n) (W : World), n ≤ m → IsP W.heap.size W la ll ps → IsT W.heap.size W x → IsT W.heap.size W y → okT x = true → okT y = true → (∀ q ∈ prs x y, q ∈ cpP ps) →
    Calls Tryz.prog 82 #[x.tv.val, y.tv.val, .slice la ll lc] W (LaidSays (n + 1) W (Gc (ιP (cpP ps)) x y)) := by
  intro n
  induction n with
  | zero => intro x; exact Empty.elim x
  | succ n ih =>
    intro x y W hnm hP hx hy ox oy hsub
    have hnt : ∀ W2, Below W.heap.size W W2 → Calls Tryz.prog 81 #[.slice la ll lc, x.tv.val, y.tv.val] W2 fun e W3 => e = .returned (.int .i64 (nthI (cpP ps) (code x, code y))) ∧ Below W2.heap.size W2 W3 := fun W2 hb => by
      obtain ⟨x', a1, a2, a3⟩ := lift_to ((hx.below hb).mono hb.size) m hnm
      obtain ⟨y', b1, b2, b3⟩ := lift_to ((hy.below hb).mono hb.size) m hnm
      have h := nth_any ps la ll lc x' y' W2 ((hP.below hb).mono hb.size) a2 b2
      rw [a1, b1, a3, b3] at h
      exact h
    cases hpp : apart x.tv y.tv with
    | true =>
      have hmem : (code x, code y) ∈ cpP ps := hsub _ (by rw [prs_apart hpp]; simp)
      have hni : nthI (cpP ps) (code x, code y) = ((cpP ps).idxOf (code x, code y) : Nat) := if_pos hmem
      rw [hni] at hnt
      rw [Gc_apart hpp]
      refine (laid_var la ll lc x y _ W hnt).mono fun e W' h => ?_
      obtain ⟨z, g1, g2, g3⟩ := h
      exact ⟨z, g1, g2, g3.mono (by omega) (fun _ h => h)⟩
    | false =>
      rw [nthI_no (notin_like hap hpp)] at hnt
      rw [Gc_like hpp]
      have hkid := fun (j : Nat) (u v : Tm n) (hu : x.kids[j]? = some u) (hv : y.kids[j]? = some v) q hq => hsub q (prs_kid hpp hu hv q hq)
      obtain ⟨_, hnd⟩ := apart_no hpp
      obtain ⟨⟨k, N, s, a, len, cap⟩, kids⟩ := x
      obtain ⟨⟨k', N', s', a', len', cap'⟩, kids'⟩ := y
      obtain ⟨wx, okx⟩ := ok_kids ox
      obtain ⟨wy, oky⟩ := ok_kids oy
      obtain ⟨hlen, hmax, hsm, hkids⟩ := hx
      obtain ⟨hlen', hmax', hsm', hkids'⟩ := hy
      have hl50 : len ≤ 50 := by
        simp only at wx
        rcases wm_cases wx with ⟨_, _, _, _, h⟩ | ⟨_, h⟩ | ⟨_, _, _, h⟩ <;> omega
      have hlq : len = len' := by simp only [Tm.tv, TV.nd, Prod.mk.injEq] at hnd; exact hnd.2.2.2
      exact laid_comp ps la ll lc (fun x y W h1 h2 h3 h4 h5 h6 => ih x y W (by omega) h1 h2 h3 h4 h5 h6) k N s s' k' N' a a' len cap len' cap' kids kids' W hP hnt hlq hlen hlen' hl50 hsm hkids hkids' okx oky hkid
end Go.Proofs.YtiigkiemkhdclaaGreatDoor

/- The contract of hornref.General: the document's generalization is ours (lgg). -/
namespace Go.Proofs.YtiigkiemkhdclaaGreatDoor
open Go.RowKit Go.Shelf Go.Maps

theorem stepsP_take {l : List Pr} {j : Nat} {q : Pr} (h : l[j]? = some q) : stepsP [] (l.take (j + 1)) = stpP (stepsP [] (l.take j)) q := by
  obtain ⟨hj, rfl⟩ := List.getElem?_eq_some_iff.1 h
  rw [List.take_succ_eq_append_getElem hj, stepsP_append]
  rfl
theorem wpList_append_row {P : Program} {w w' : World} {ops : Array Oper} {rest : List Oper} {o : Oper} {a : Act} {Q : Exit → Act → World → Prop} (hgd : o.guard = none) (s x : Operand) (t : TypeId) {v u v' : Value}
    (ho : o.op = .call { callee := .builtin .append, args := #[s, x], argTypes := #[t, t] }) (hs : a.eval s = v) (hx : a.eval x = u) (hr : (Builtin.append_ #[t, t] o.type #[v, u]).run P w = .ok v' w') (h : wpList P ops Q rest (a.put o.dst v') w') : wpList P ops Q (o :: rest) a w :=
  wpList_plain hgd fun _ hK => wp_append_row s x t ho hs hx hr (hK _ _ h)
theorem stepsP_short (l : List Pr) : (stepsP [] l).length ≤ l.length := by
  obtain ⟨d, h1, h2⟩ := stepsP_ext l []
  rw [h1]; simpa using h2

set_option maxRecDepth 100000 in
set_option maxHeartbeats 4000000 in
theorem rgeneral_any {n : Nat} (x y : Tm n) (w : World) (hx : IsT w.heap.size w x) (hy : IsT w.heap.size w y) (ox : okT x = true) (oy : okT y = true) (hbig : (code x).length ≤ 4194304) :
    Calls Tryz.prog 47 #[x.tv.val, y.tv.val] w fun e W' => ∃ z : TV, e = .returned z.val ∧ Below w.heap.size w W' ∧ HoldsS (n + 1) (fun _ => True) W' z.val (lgg x y) := by
  obtain ⟨W1, hW1, hB1, hba, hbb, hbz, hsz⟩ := three_z w x.tv y.tv
  have hun := unlike_any (n₀ := w.heap.size) n x y W1 (hx.below hB1) (hy.below hB1) hB1.size ox oy hbig
  have hpl := prsU_len x y
  have hapart := prs_allApart x y
  have hlaid := fun (ps : List (Tm n × Tm n)) (la : Option Addr) (ll lc : Nat) (W : World) (h1 : cpP ps = stepsP [] (prs x y)) (hb : Below w.heap.size w W) (hP : IsP W.heap.size W la ll ps) =>
    laid_any ps la ll lc (by rw [h1]; exact fun q hq => hapart q ((stepsP_sub _ _ q hq).resolve_left (by simp))) n x y W (Nat.le_refl _) hP ((hx.below hb).mono hb.size) ((hy.below hb).mono hb.size) ox oy (fun q hq => by rw [h1]; exact stepsP_mem _ _ q hq)
  have hlg : ∀ ps : List (Tm n × Tm n), cpP ps = stepsP [] (prs x y) → Gc (ιP (cpP ps)) x y = lgg x y := fun ps h => by rw [h]; rfl
  obtain ⟨c, hc⟩ : ∃ c, prs x y = c := ⟨_, rfl⟩
  rw [hc] at hun hpl hlaid hlg
  have b0 := hba.c0
  have b1 := hba.c1
  have b2 := hba.c2
  have b3 := hba.c3
  have d0 := hbb.c0
  have d1 := hbb.c1
  have d2 := hbb.c2
  have d3 := hbb.c3
  obtain ⟨i0, hi, hz0, hz1, hz2⟩ := info_parts Tryz.info_pair
  have HLA := hide hlaid
  have HLG := hide hlg
  have HB1 := hide hB1
  have HBA := hide hba
  have HBB := hide hbb
  have HBZ := hide hbz
  have HSZ := hide hsz
  clear hx hy ox oy hapart hlaid hlg hc hB1 hba hbb hbz hsz
  simp only [TV.val] at hun ⊢
  go_enter Tryz.func47, Tryz.ntmps47
  go_wp2_with fail
  refine hun.mono ?_
  clear hun b0 b1 b2 b3 d0 d1 d2 d3 hW1
  rintro e W2 ⟨pa, pl, pc, lp, rfl, hb2, hm2⟩
  have hsz := unhide HSZ
  have hs2 := hb2.size
  have hB2 : Below w.heap.size w W2 := (unhide HB1).trans (hb2.mono (unhide HB1).size)
  have hlen2 := hm2.len
  obtain ⟨pa', pc', e2, hall⟩ := hm2.isP (by omega) hB2.size
  simp only [Value.slice.injEq] at e2
  obtain ⟨rfl, rfl, rfl⟩ := e2
  obtain ⟨ks, hks, hcks, hkT⟩ := hall n (Nat.le_refl _)
  have hba2 : BoxT W2 w.heap.size x.tv := boxT_on (unhide HBA) hb2
  have hbb2 : BoxT W2 (w.heap.size + 1) y.tv := boxT_on (unhide HBB) hb2
  have hbz2 := (hb2.block (w.heap.size + 2) (by omega)).trans (unhide HBZ)
  have HKS := hide hks
  have HKT := hide hkT
  clear hkT
  have HCK := hide hcks
  have HB2 := hide hB2
  have HBA2 := hide hba2
  have HBB2 := hide hbb2
  have HBZ2 := hide hbz2
  have hlc : lp.length ≤ 4194304 := by omega
  have HL2 := hide hlen2
  clear hm2 hb2 hall hks hcks hba2 hbb2 hbz2 hB2 hlen2 HB1 HBA HBB HBZ
  go_wp2_with fail
  go_loopw [5, 7] (fun lv i wr => ∃ (j : Nat) (l : List (TV × TV)), j ≤ lp.length ∧ i = .int .i64 j ∧ Below W2.heap.size W2 wr ∧ MadeP n w.heap.size W2.heap.size wr lv l (stepsP [] (c.take j))) (fun _ i _ => lp.length - (intOf i).toNat)
  case atStart => exact ⟨0, [], Nat.zero_le _, rfl, Below.refl _ _, by simpa [stepsP] using MadeP.zero _ _ _ _⟩
  case round =>
    obtain ⟨j, l, hj, rfl, hb, hm⟩ := hrel
    have hbs := hb.size
    have hBw : Below w.heap.size w wr := (unhide HB2).trans (hb.mono (unhide HB2).size)
    have hml := hm.len
    have hsl := stepsP_short (c.take j)
    have htl : (c.take j).length ≤ j := by rw [List.length_take]; omega
    obtain ⟨va, vc, hv5, hall⟩ := hm.isP (by omega) hBw.size
    subst hv5
    obtain ⟨ms, hms, hcms, -⟩ := hall n (Nat.le_refl _)
    have HM := hide hm
    clear hm hall
    by_cases hlt : j < lp.length
    · obtain ⟨u, v, b, off, hu, rfl, hbk, hTu, hTv, ⟨c0, c1, c2, c3⟩, ⟨d0, d1, d2, d3⟩⟩ := pair_at (unhide HKS) hb hlt
      have hcj : c[j]? = some (code u, code v) := by rw [← unhide HCK]; unfold cpP; rw [List.getElem?_map, hu]; rfl
      have hstep := stepsP_take hcj
      have hdr : Below wr.heap.size wr wr.drew := (Below.refl _ wr).drew
      have hnt := nth_any ms va l.length vc u v wr.drew (hms.below hdr) (hTu.below hdr) (hTv.below hdr)
      rw [hcms] at hnt
      replace hnt := hnt.mono (R' := fun e W3 => e = .returned (.int .i64 (nthI (stepsP [] (c.take j)) (code u, code v))) ∧ Below wr.heap.size wr W3) (fun e W3 h => ⟨h.1, hdr.trans h.2⟩)
      have hj1 : (j : Int) < lp.length := by omega
      have hy2 : b < wr.heap.size := by omega
      obtain ⟨r, hr⟩ : ∃ r, nthI (stepsP [] (c.take j)) (code u, code v) = r := ⟨_, rfl⟩
      rw [hr] at hnt
      have hone := fun (W : World) (hbW : Below wr.heap.size wr W) => one_pair (n₀ := w.heap.size) (x := u) (y := v) hbW
      have HSTEP := hide hstep
      have HMS := hide hms
      clear hms hcms hdr hone hstep
      by_cases hmem : (code u, code v) ∈ stepsP [] (c.take j)
      · have hstp : stpP (stepsP [] (c.take j)) (code u, code v) = stepsP [] (c.take j) := if_pos hmem
        have hr0 : ¬ r < 0 := by rw [← hr]; unfold nthI; rw [if_pos hmem]; omega
        have hr1 : decide (r < 0) = false := decide_eq_false hr0
        have HST := hide hstp
        clear hmem hstp hr hTu hTv hu hcj
        simp only [TV.val] at hnt
        go_wp2_with fail
        go_region_held3 (fun w' => w'.cell? ⟨b, off + j * 8, none⟩ = some (.int .i64 u.tv.k) ∧ w'.cell? ⟨b, off + j * 8 + 1, none⟩ = some (.int .i64 u.tv.N) ∧ w'.cell? ⟨b, off + j * 8 + 2, none⟩ = some (.string u.tv.s) ∧ w'.cell? ⟨b, off + j * 8 + 3, none⟩ = some (.slice u.tv.a u.tv.len u.tv.cap)
          ∧ w'.cell? ⟨b, off + j * 8 + 4, none⟩ = some (.int .i64 v.tv.k) ∧ w'.cell? ⟨b, off + j * 8 + 4 + 1, none⟩ = some (.int .i64 v.tv.N) ∧ w'.cell? ⟨b, off + j * 8 + 4 + 2, none⟩ = some (.string v.tv.s) ∧ w'.cell? ⟨b, off + j * 8 + 4 + 3, none⟩ = some (.slice v.tv.a v.tv.len v.tv.cap)) (go_keep)
          (first | (go_at_call 81; refine hnt.mono ?_; clear hnt; rintro e W3 ⟨rfl, hb3⟩; have hbc := bcell hb3))
        clear hbc
        have hfin : MadeP n w.heap.size W2.heap.size W3 (.slice va l.length vc) l (stepsP [] (c.take (j + 1))) := by rw [unhide HSTEP, unhide HST]; exact (unhide HM).below hb3 hBw.size
        have HF := hide hfin
        clear hfin
        go_wp2_with fail
        exact ⟨⟨j + 1, l, by omega, by go_num, hb.trans (hb3.mono hbs), unhide HF⟩, by simp [intOf]; omega⟩
      · have hstp : stpP (stepsP [] (c.take j)) (code u, code v) = stepsP [] (c.take j) ++ [(code u, code v)] := if_neg hmem
        have hr0 : r < 0 := by rw [← hr]; unfold nthI; rw [if_neg hmem]; omega
        have hr1 : decide (r < 0) = true := decide_eq_true hr0
        have HST := hide hstp
        have hTn := (unhide HKT) (u, v) (List.mem_of_getElem? hu)
        have hTu0 : IsT w.heap.size wr u := hTn.1.below (hb.mono (unhide HB2).size)
        have hTv0 : IsT w.heap.size wr v := hTn.2.below (hb.mono (unhide HB2).size)
        have HTU := hide hTu0
        have HTV := hide hTv0
        clear hTn hTu0 hTv0
        clear hmem hstp hr hTu hTv hu hcj
        simp only [TV.val] at hnt
        go_wp2_with fail
        go_region_held3 (fun w' => w'.cell? ⟨b, off + j * 8, none⟩ = some (.int .i64 u.tv.k) ∧ w'.cell? ⟨b, off + j * 8 + 1, none⟩ = some (.int .i64 u.tv.N) ∧ w'.cell? ⟨b, off + j * 8 + 2, none⟩ = some (.string u.tv.s) ∧ w'.cell? ⟨b, off + j * 8 + 3, none⟩ = some (.slice u.tv.a u.tv.len u.tv.cap)
          ∧ w'.cell? ⟨b, off + j * 8 + 4, none⟩ = some (.int .i64 v.tv.k) ∧ w'.cell? ⟨b, off + j * 8 + 4 + 1, none⟩ = some (.int .i64 v.tv.N) ∧ w'.cell? ⟨b, off + j * 8 + 4 + 2, none⟩ = some (.string v.tv.s) ∧ w'.cell? ⟨b, off + j * 8 + 4 + 3, none⟩ = some (.slice v.tv.a v.tv.len v.tv.cap)) (go_keep)
          (first | (go_at_call 81; refine hnt.mono ?_; clear hnt; rintro e W3 ⟨rfl, hb3⟩; have hbc := bcell hb3))
        have hs3 := hb3.size
        have e0 := (hbc b (off + j * 8) hy2).trans c0
        have e1 := (hbc b (off + j * 8 + 1) hy2).trans c1
        have e2 := (hbc b (off + j * 8 + 2) hy2).trans c2
        have e3 := (hbc b (off + j * 8 + 3) hy2).trans c3
        have e4 := (hbc b (off + j * 8 + 4) hy2).trans d0
        have e5 : W3.cell? ⟨b, off + j * 8 + 5, none⟩ = some (.int .i64 v.tv.N) := (hbc b (off + j * 8 + 5) hy2).trans d1
        have e6 : W3.cell? ⟨b, off + j * 8 + 6, none⟩ = some (.string v.tv.s) := (hbc b (off + j * 8 + 6) hy2).trans d2
        have e7 : W3.cell? ⟨b, off + j * 8 + 7, none⟩ = some (.slice v.tv.a v.tv.len v.tv.cap) := (hbc b (off + j * 8 + 7) hy2).trans d3
        have hm3 := (unhide HM).below hb3 hBw.size
        obtain ⟨_, _, _, lq, hq1, hq2, hq3⟩ := one_pair (n₀ := w.heap.size) hb3 (unhide HTU) (unhide HTV) hBw.size
        simp only [Ending.returned.injEq, Value.slice.injEq] at hq1
        obtain ⟨rfl, rfl, rfl⟩ := hq1
        obtain ⟨u6, w6, hr6, hm6, hg6⟩ := (hm3.below ((Below.refl _ W3).alloc (Nat.le_refl _) (.cells #[.int .i64 u.tv.k, .int .i64 u.tv.N, .string u.tv.s, .slice u.tv.a u.tv.len u.tv.cap, .int .i64 v.tv.k, .int .i64 v.tv.N, .string v.tv.s, .slice v.tv.a v.tv.len v.tv.cap] 114)) (by have := hBw.size; omega)).append hq3 110 (by have := hq3.len; simp at this; omega) (by have := (unhide HB2).size; omega) (by simp; omega)
        have hbf : Below W2.heap.size W2 w6 := ((hb.trans (hb3.mono hbs)).alloc (by omega) _).grown hg6 (by simp; omega) (fun g hg => (owns_lt (unhide HM).owns hg).1)
        obtain ⟨va6, vc6, rfl⟩ := hm6.slice
        have hfin : MadeP n w.heap.size W2.heap.size w6 (.slice va6 (l ++ lq).length vc6) (l ++ lq) (stepsP [] (c.take (j + 1))) := by rw [unhide HSTEP, unhide HST]; exact hm6
        have HF := hide hfin
        clear hfin hm6 hm3 hq3 hq2 hbc c0 c1 c2 c3 d0 d1 d2 d3 hg6
        go_wp2_with (at_builtin; go_must (refine wpList_append_row rfl _ _ _ rfl rfl rfl hr6 ?_))
        exact ⟨⟨j + 1, l ++ lq, by omega, by go_num, hbf, by have h := unhide HF; rw [List.length_append] at h; exact h⟩, by simp [intOf]; omega⟩
    · have ht : c.take j = c := List.take_of_length_le (by have := unhide HL2; omega)
      rw [ht] at hcms
      have hbar : BoxT wr w.heap.size x.tv := boxT_on (unhide HBA2) hb
      have hbbr : BoxT wr (w.heap.size + 1) y.tv := boxT_on (unhide HBB2) hb
      have hbzr := (hb.block (w.heap.size + 2) (by omega)).trans (unhide HBZ2)
      have hla := (unhide HLA) ms va l.length vc wr hcms hBw hms
      rw [(unhide HLG) ms hcms] at hla
      have b0 := hbar.c0
      have b1 := hbar.c1
      have b2 := hbar.c2
      have b3 := hbar.c3
      have d0 := hbbr.c0
      have d1 := hbbr.c1
      have d2 := hbbr.c2
      have d3 := hbbr.c3
      have HBW := hide hBw
      have HBZR := hide hbzr
      have hzl : w.heap.size + 2 < wr.heap.size := (Array.getElem?_eq_some_iff.1 hbzr).1
      simp only [TV.val] at hla
      clear hms hcms ht hbar hbbr hbzr hBw
      go_wp2_with fail
      refine hla.mono ?_
      clear hla b0 b1 b2 b3 d0 d1 d2 d3
      rintro e W5 ⟨z, rfl, hb5, hz⟩
      obtain ⟨⟨z0, z1, z2, z3⟩, y0, y1, y2, y3⟩ := zbox_kept ((hb5.block (w.heap.size + 2) hzl).trans (unhide HBZR))
      have hB5 : Below w.heap.size w W5 := (unhide HBW).trans (hb5.mono (unhide HBW).size)
      have hfin : HoldsS (n + 1) (fun _ => True) (set4 W5 (w.heap.size + 2) 0 z) z.val (lgg x y) := (hz.fromS (fun b hb _ => set4_other _ _ 0 z (by unfold Mix at hb; omega)) (by rw [set4_size]; exact Nat.le_refl _)).mono (Nat.le_refl _) (fun _ _ => trivial)
      have hbf : Below w.heap.size w (set4 W5 (w.heap.size + 2) 0 z) := set4_below hB5 (by omega) 0 z
      have HF := hide hfin
      have HBF := hide hbf
      clear hfin hbf hz hB5 hb5
      simp only [TV.val]
      go_wp2_with fail
      refine bodyPost_ret (v := z.val) ?_ rfl ⟨z, rfl, unhide HBF, unhide HF⟩
      simp [results, Tryz.results47, go_sem, TV.val, z0, z1, z2, z3]
end Go.Proofs.YtiigkiemkhdclaaGreatDoor

