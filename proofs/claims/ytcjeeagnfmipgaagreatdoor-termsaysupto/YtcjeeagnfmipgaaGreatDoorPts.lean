import Derived.Test.YtcjeeagnfmipgaaGreatDoorHss
import Derived.Test.YtcjeeagnfmipgaaGreatDoorSws
import Derived.Test.YtcjeeagnfmipgaaGreatDoorLms
import Derived.Test.YtcjeeagnfmipgaaGreatDoorLgs
import Derived.Laws.AppendOwnNone
import Derived.Test.YtcjeeagnfmipgaaGreatDoorG
/- The part at a path: the contracts of term.placeOf, term.At and hornref.At. -/
namespace Go.Proofs.YtcjeeagnfmipgaaGreatDoor
open Go.RowKit Go.Shelf Go.Maps

/-- The part at a path. -/
def atT : List Int → {n : Nat} → Tm n → Option (Σ m, Tm m)
  | [], n, t => some ⟨n, t⟩
  | _ :: _, 0, t => Empty.elim t
  | k :: r, _ + 1, t => if 0 ≤ k ∧ k < (t.kids.length : Int) then (t.kids[k.toNat]?).bind fun u => atT r u else none
theorem atT_go {k : Int} {r : List Int} {n : Nat} {t : Tm (n + 1)} {u : Tm n} {j : Nat} (hk : k = (j : Nat)) (hu : t.kids[j]? = some u) : atT (k :: r) t = atT r u := by
  subst hk
  have hj := (List.getElem?_eq_some_iff.1 hu).1
  simp only [atT]
  rw [if_pos ⟨by omega, by omega⟩, Int.toNat_natCast, hu]
  rfl
theorem atT_no {k : Int} {r : List Int} {n : Nat} {t : Tm (n + 1)} (hk : ¬ (0 ≤ k ∧ k < (t.kids.length : Int))) : atT (k :: r) t = none := by
  simp only [atT]
  rw [if_neg hk]

/-- What placeOf answers. -/
def PlaceSays (n₀ : Nat) (W : World) (r : Option (Σ m, Tm m)) (e : Ending) : Prop :=
  (r = none ∧ e = .returned (.pointer none)) ∨ ∃ (m : Nat) (u : Tm m) (b o : Nat), r = some ⟨m, u⟩ ∧ e = .returned (.pointer (some ⟨b, o, none⟩)) ∧ cellsAt W b o u.tv ∧ IsT n₀ W u

set_option maxRecDepth 100000 in
set_option maxHeartbeats 2000000 in
theorem placeOf_any {n₀ n : Nat} (ns : List Int) (a : Option Addr) (len cap : Nat) (t : Tm n) (b o : Nat) (W : World) (hN : IsN W a len ns) (hc : cellsAt W b o t.tv) (hT : IsT n₀ W t) :
    Calls Tryz.prog 67 #[.pointer (some ⟨b, o, none⟩), .slice a len cap] W fun e W' => PlaceSays n₀ W (atT ns t) e ∧ W' = W := by
  have h1 := hN.1
  have h2 := hN.2.1
  have hl1 : len ≤ ns.length := by omega
  have hl2 : ns.length ≤ len := by omega
  clear h1
  have HN := hide hN
  clear hN
  go_enter Tryz.func67, Tryz.ntmps67
  go_wp2_with fail
  go_loop [0, 9] (fun p i => ∃ (j m : Nat) (u : Tm m) (b o : Nat), j ≤ len ∧ i = .int .i64 j ∧ p = .pointer (some ⟨b, o, none⟩) ∧ cellsAt W b o u.tv ∧ IsT n₀ W u ∧ atT ns t = atT (ns.drop j) u) (fun _ i => len - (intOf i).toNat)
  case atStart => exact ⟨0, n, t, b, o, Nat.zero_le _, rfl, rfl, hc, hT, rfl⟩
  case round =>
    obtain ⟨j, m, u, b, o, hj, rfl, rfl, hcu, hTu, hat⟩ := hrel
    by_cases hlt : j < len
    · obtain ⟨k, pb, off, hk, rfl, c0⟩ := num_at (unhide HN) hlt
      have hdrop : ns.drop j = k :: ns.drop (j + 1) := by
        obtain ⟨hj', hk'⟩ := List.getElem?_eq_some_iff.1 hk
        rw [List.drop_eq_getElem_cons hj', hk']
      rw [hdrop] at hat
      have hj1 : (j : Int) < len := by omega
      cases m with
      | zero => exact Empty.elim u
      | succ m =>
        obtain ⟨⟨uk, uN, us, ua, ul, uc⟩, kids⟩ := u
        obtain ⟨d0, d1, d2, d3⟩ := hcu
        obtain ⟨hlen, hmax, hsm, hkids⟩ := hTu
        simp only [Tm.tv, Tm.kids] at hlen hmax hkids d3
        by_cases hin : 0 ≤ k ∧ k < (ul : Int)
        · obtain ⟨q, hq⟩ : ∃ q : Nat, k = (q : Nat) := ⟨k.toNat, by omega⟩
          subst hq
          have hql : q < kids.length := by omega
          obtain ⟨z, hz⟩ : ∃ z, kids[q]? = some z := ⟨kids[q], List.getElem?_eq_getElem hql⟩
          have hne : kids ≠ [] := by rintro rfl; simp at hz
          obtain ⟨bk, ok, rfl, hbk, hkk⟩ := hkids.resolve_left hne
          obtain ⟨hcz, hTz⟩ := hkk q z hz
          have hnx : atT ns t = atT (ns.drop (j + 1)) z := hat.trans (atT_go rfl hz)
          have hq1 : (q : Int) < ul := by omega
          have hq0 : ¬ (q : Int) < 0 := by omega
          have hq2 : q < ul := by omega
          have HX := hide (And.intro hcz (And.intro hTz hnx))
          clear hcz hTz hnx hkk hkids hz hne hat hdrop hin hsm d0 d1 d2
          go_wp2_with fail
          exact ⟨⟨j + 1, m, z, bk, ok + q * 4, by omega, by go_num, rfl, (unhide HX).1, (unhide HX).2.1, (unhide HX).2.2⟩, by simp [intOf]; omega⟩
        · have hno : atT ns t = none := hat.trans (atT_no (by simpa [Tm.kids, ← hlen] using hin))
          have HNO := hide hno
          clear hno hat hdrop hkids hsm d0 d1 d2
          by_cases hk0 : k < 0
          · go_wp2_with fail
            go_ret
            exact ⟨.inl ⟨unhide HNO, rfl⟩, rfl⟩
          · have hk1 : (ul : Int) ≤ k := by omega
            go_wp2_with fail
            go_ret
            exact ⟨.inl ⟨unhide HNO, rfl⟩, rfl⟩
    · have hd : ns.drop j = [] := List.drop_of_length_le (by omega)
      rw [hd] at hat
      have HAT := hide hat
      clear hat hd
      go_wp2_with fail
      go_ret
      exact ⟨.inr ⟨m, u, b, o, (unhide HAT), rfl, hcu, hTu⟩, rfl⟩

theorem atT_ok : ∀ (ns : List Int) {n : Nat} {t : Tm n} {m : Nat} {u : Tm m}, okT t = true → atT ns t = some ⟨m, u⟩ → okT u = true
  | [], n, t, m, u, h, e => by
    simp only [atT, Option.some.injEq, Sigma.mk.injEq] at e
    obtain ⟨rfl, e⟩ := e
    cases e
    exact h
  | k :: r, 0, t, _, _, _, _ => Empty.elim t
  | k :: r, n + 1, t, m, u, h, e => by
    simp only [atT] at e
    split at e
    · cases hz : t.kids[k.toNat]? with
      | none => rw [hz] at e; cases e
      | some z =>
        rw [hz] at e
        exact atT_ok r (ok_kids' h z (List.mem_of_getElem? hz)) e
    · cases e
theorem atT_isT {n₀ : Nat} {W : World} : ∀ (ns : List Int) {n : Nat} {t : Tm n} {m : Nat} {u : Tm m}, IsT n₀ W t → atT ns t = some ⟨m, u⟩ → IsT n₀ W u
  | [], n, t, m, u, h, e => by
    simp only [atT, Option.some.injEq, Sigma.mk.injEq] at e
    obtain ⟨rfl, e⟩ := e
    cases e
    exact h
  | k :: r, 0, t, _, _, _, _ => Empty.elim t
  | k :: r, n + 1, t, m, u, h, e => by
    simp only [atT] at e
    split at e
    · cases hz : t.kids[k.toNat]? with
      | none => rw [hz] at e; cases e
      | some z =>
        rw [hz] at e
        obtain ⟨_, _, _, h4⟩ := h
        have hne : t.kids ≠ [] := fun e' => by rw [e'] at hz; simp at hz
        obtain ⟨b, off, _, _, hk⟩ := h4.resolve_left hne
        exact atT_isT r (hk _ z hz).2 e
    · cases e
theorem atT_parts : ∀ (ns : List Int) {n : Nat} {t : Tm n} {m : Nat} {u : Tm m}, atT ns t = some ⟨m, u⟩ → (parts u).length ≤ (parts t).length
  | [], n, t, m, u, e => by
    simp only [atT, Option.some.injEq, Sigma.mk.injEq] at e
    obtain ⟨rfl, e⟩ := e
    cases e
    exact Nat.le_refl _
  | k :: r, 0, t, _, _, _ => Empty.elim t
  | k :: r, n + 1, t, m, u, e => by
    simp only [atT] at e
    split at e
    · cases hz : t.kids[k.toNat]? with
      | none => rw [hz] at e; cases e
      | some z =>
        rw [hz] at e
        have h1 := atT_parts r e
        have h2 := pre_parts t.kids _ z hz
        have h3 : (parts t).length = (t.kids.flatMap parts).length + 1 := by simp [parts]
        omega
    · cases e
def zeroT : TV := ⟨0, 0, ⟨#[]⟩, none, 0, 0⟩

set_option maxRecDepth 100000 in
set_option maxHeartbeats 1000000 in
theorem at_bad {n : Nat} (t : Tm n) (a : Option Addr) (len cap : Nat) (w : World) (hT : IsT w.heap.size w t) (hok : okT t = false) :
    Calls Tryz.prog 21 #[t.tv.val, .slice a len cap] w fun e W' => e = .returned (.tuple #[zeroT.val, .int .i64 2]) ∧ Below w.heap.size w W' := by
  have hH := Head.new w t.tv
  have hB1 : Below w.heap.size w ((w.alloc (.cells #[.int .i64 t.tv.k, .int .i64 t.tv.N, .string t.tv.s, .slice t.tv.a t.tv.len t.tv.cap] 24)).alloc (.cells #[.int .i64 0, .int .i64 0, .string ⟨#[]⟩, .slice none 0 0] 24)) := ((Below.refl _ w).alloc (Nat.le_refl _) _).alloc (by simp) _
  have hck := check_any t _ ((hT.below hB1).mono hB1.size)
  rw [chk_no hok] at hck
  simp only [TV.val, zeroT] at hck ⊢
  clear hT hok hB1
  go_enter Tryz.func21, Tryz.ntmps21
  go_wp2_with fail
  refine hck.mono ?_
  clear hck
  rintro e W1 ⟨rfl, hb1⟩
  replace hH := hH.next hb1
  clear hb1
  obtain ⟨⟨z0, z1, z2, z3⟩, y0, y1, y2, y3⟩ := zbox_kept hH.bz
  have hbf := set4_below hH.below (b := w.heap.size + 1) (by omega) 0 zeroT
  unfold zeroT at hbf
  have HF := hide hbf
  clear hbf hH
  go_wp2_with fail
  exact bodyPost_ret (v := .tuple #[.agg #[.int .i64 0, .int .i64 0, .string ⟨#[]⟩, .slice none 0 0], .int .i64 2]) (by simp [results, Tryz.results21, go_sem, z0, z1, z2, z3]) rfl ⟨rfl, unhide HF⟩

/-- What At answers, of a term. -/
def AtSays (lo : Nat) (W' : World) (r : Option (Σ m, Tm m)) (x : TV) (e : Int) : Prop :=
  (r = none ∧ x = zeroT ∧ e = 8) ∨ ∃ (m : Nat) (u : Tm m), r = some ⟨m, u⟩ ∧ e = 0 ∧ HoldsT (m + 1) lo W' x.val (code u)

set_option maxRecDepth 100000 in
set_option maxHeartbeats 2000000 in
theorem at_any {n : Nat} (t : Tm n) (ns : List Int) (a : Option Addr) (len cap : Nat) (w : World) (hT : IsT w.heap.size w t) (hok : okT t = true) (hN : IsN w a len ns) :
    Calls Tryz.prog 21 #[t.tv.val, .slice a len cap] w fun e W' => ∃ (x : TV) (r : Int), e = .returned (.tuple #[x.val, .int .i64 r]) ∧ Below w.heap.size w W' ∧ AtSays w.heap.size W' (atT ns t) x r := by
  have hH := Head.new w t.tv
  have hB1 : Below w.heap.size w ((w.alloc (.cells #[.int .i64 t.tv.k, .int .i64 t.tv.N, .string t.tv.s, .slice t.tv.a t.tv.len t.tv.cap] 24)).alloc (.cells #[.int .i64 0, .int .i64 0, .string ⟨#[]⟩, .slice none 0 0] 24)) := ((Below.refl _ w).alloc (Nat.le_refl _) _).alloc (by simp) _
  have hck := check_any t _ ((hT.below hB1).mono hB1.size)
  rw [chk_yes hok] at hck
  have hpl := fun (W : World) (hb : Below w.heap.size w W) (hx : BoxT W w.heap.size t.tv) => placeOf_any (n₀ := w.heap.size) ns a len cap t w.heap.size 0 W (hN.below hb) ⟨hx.c0, hx.c1, hx.c2, hx.c3⟩ (hT.below hb)
  have hoku := fun m u => atT_ok ns (t := t) (m := m) (u := u) hok
  generalize atT ns t = r at *
  have HPL := hide hpl
  have HOU := hide hoku
  simp only [TV.val] at hck ⊢
  clear hT hok hB1 hN hpl hoku
  go_enter Tryz.func21, Tryz.ntmps21
  go_wp2_with fail
  refine hck.mono ?_
  clear hck
  rintro e W1 ⟨rfl, hb1⟩
  replace hH := hH.next hb1
  clear hb1
  have hp1 := (unhide HPL) W1 hH.below hH.ba
  go_wp2_with fail
  refine hp1.mono ?_
  clear hp1
  rintro e W2 ⟨hps, rfl⟩
  rcases hps with ⟨rfl, rfl⟩ | ⟨m, u, b, o, rfl, rfl, hcu, hTu⟩
  · obtain ⟨⟨z0, z1, z2, z3⟩, y0, y1, y2, y3⟩ := zbox_kept hH.bz
    have hbf := set4_below hH.below (b := w.heap.size + 1) (by omega) 0 zeroT
    unfold zeroT at hbf
    have HF := hide hbf
    clear hbf hH
    go_wp2_with fail
    exact bodyPost_ret (v := .tuple #[.agg #[.int .i64 0, .int .i64 0, .string ⟨#[]⟩, .slice none 0 0], .int .i64 8]) (by simp [results, Tryz.results21, go_sem, z0, z1, z2, z3]) rfl ⟨zeroT, 8, rfl, unhide HF, .inl ⟨rfl, rfl, rfl⟩⟩
  · have hTs : IsT W2.heap.size W2 u := hTu.mono hH.below.size
    have hcp := copy_any u W2 hTs ((unhide HOU) m u rfl)
    obtain ⟨c0, c1, c2, c3⟩ := hcu
    have HH := hide hH
    simp only [TV.val] at hcp
    clear hTu hTs hH
    go_wp2_with fail
    refine hcp.mono ?_
    clear hcp
    rintro e W3 ⟨x, rfl, hb3, hx⟩
    have hlt2 := (unhide HH).lt
    have hH := (unhide HH).next hb3
    obtain ⟨⟨z0, z1, z2, z3⟩, y0, y1, y2, y3⟩ := zbox_kept hH.bz
    have hfin := (holds_set4 hx (b := w.heap.size + 1) hlt2 0 x).mono (lo' := w.heap.size) (Nat.le_refl _) (by omega)
    have hbf := set4_below hH.below (b := w.heap.size + 1) (by omega) 0 x
    have HF := hide (And.intro hbf hfin)
    clear hfin hbf hx hH hb3 c0 c1 c2 c3
    go_wp2_with fail
    exact bodyPost_ret (v := .tuple #[x.val, .int .i64 0]) (by simp [results, Tryz.results21, go_sem, TV.val, z0, z1, z2, z3]) rfl ⟨x, 0, rfl, (unhide HF).1, .inr ⟨m, u, rfl, rfl, (unhide HF).2⟩⟩

set_option maxRecDepth 100000 in
set_option maxHeartbeats 2000000 in
theorem rat_any : ∀ (ns : List Int) (n : Nat) (t : Tm n) (a : Option Addr) (len cap : Nat) (W : World), IsN W a len ns → len ≤ cap → IsT W.heap.size W t →
    Calls Tryz.prog 40 #[t.tv.val, .slice a len cap] W fun e W' => Below W.heap.size W W' ∧ ((atT ns t = none ∧ e = .returned (.tuple #[zeroT.val, .bool false])) ∨ ∃ (m : Nat) (u : Tm m), atT ns t = some ⟨m, u⟩ ∧ e = .returned (.tuple #[u.tv.val, .bool true])) := by
  intro ns
  induction ns with
  | nil =>
    intro n t a len cap W hN hcap hT
    have hl0 : len = 0 := hN.1
    subst hl0
    have hH := Head.new W t.tv
    clear hT hN
    simp only [TV.val, zeroT]
    go_enter Tryz.func40, Tryz.ntmps40
    have hfin : Below W.heap.size W ((W.alloc (.cells #[.int .i64 t.tv.k, .int .i64 t.tv.N, .string t.tv.s, .slice t.tv.a t.tv.len t.tv.cap] 24)).alloc (.cells #[.int .i64 t.tv.k, .int .i64 t.tv.N, .string t.tv.s, .slice t.tv.a t.tv.len t.tv.cap] 24)) := ((Below.refl _ W).alloc (Nat.le_refl _) _).alloc (by simp) _
    clear hH
    go_wp2_with fail
    exact bodyPost_ret (v := .tuple #[t.tv.val, .bool true]) (by simp [results, Tryz.results40, go_sem, TV.val]) rfl ⟨hfin, .inr ⟨n, t, rfl, rfl⟩⟩
  | cons k r ih =>
    intro n t a len cap W hN hcap hT
    cases n with
    | zero => exact Empty.elim t
    | succ n =>
      have hl0 : len = r.length + 1 := by have := hN.1; simpa using this
      obtain ⟨k', pb, off, hk', rfl, p0⟩ := num_at hN (j := 0) (by omega)
      simp at hk'
      subst hk'
      have hN' : IsN W (if cap = 1 then some ⟨pb, off, none⟩ else some ⟨pb, off + 1, none⟩) (len - 1) r := by
        obtain ⟨g1, g2, g3⟩ := hN
        refine ⟨by omega, by omega, ?_⟩
        by_cases hc1 : cap = 1
        · exact .inl (List.length_eq_zero_iff.1 (by omega))
        · rw [if_neg hc1]
          obtain ⟨b, o, he, hlt, hk⟩ := g3.resolve_left (by simp)
          simp at he
          obtain ⟨rfl, rfl⟩ := he
          exact .inr ⟨pb, off + 1, rfl, hlt, fun j N hj => by have := hk (j + 1) N (by simpa using hj); rwa [show off + (j + 1) = off + 1 + j by omega] at this⟩
      obtain ⟨A, hA⟩ : ∃ A, (if cap = 1 then some (⟨pb, off, none⟩ : Addr) else some ⟨pb, off + 1, none⟩) = A := ⟨_, rfl⟩
      rw [hA] at hN'
      have hpb : pb < W.heap.size := by
        obtain ⟨_, _, g3⟩ := hN
        obtain ⟨b, o, he, hlt, _⟩ := g3.resolve_left (by simp)
        simp at he
        omega
      have hH := Head.new W t.tv
      obtain ⟨W1, hW1⟩ : ∃ W1, (W.alloc (.cells #[.int .i64 t.tv.k, .int .i64 t.tv.N, .string t.tv.s, .slice t.tv.a t.tv.len t.tv.cap] 24)).alloc (.cells #[.int .i64 0, .int .i64 0, .string ⟨#[]⟩, .slice none 0 0] 24) = W1 := ⟨_, rfl⟩
      rw [hW1] at hH
      have hbw := hH.below
      have p1 : W1.cell? ⟨pb, off, none⟩ = some (.int .i64 k) := by
        have := (hbw.cell (p := ⟨pb, off, none⟩) hpb).trans p0
        simpa using this
      have x3 := hH.ba.c3
      obtain ⟨⟨z0, z1, z2, z3⟩, y0, y1, y2, y3⟩ := zbox_kept hH.bz
      have hzb := hH.bz
      obtain ⟨⟨tk, tN, ts, ta, tl, tc⟩, kids⟩ := t
      obtain ⟨hlen, hmax, hsm, hkids⟩ := hT
      simp only [Tm.tv, Tm.kids] at hlen hmax hsm hkids x3 hW1
      have hl1 : (0 : Int) < len := by omega
      have hl0n : 0 < len := by omega
      have hlz : ((len : Int) == 0) = false := by simp; omega
      have hle1 : (1 : Int) ≤ len := by omega
      have HN := hide hN'
      have HI := hide ih
      have HH := hide hH
      simp only [TV.val, zeroT, Tm.tv]
      by_cases hin : 0 ≤ k ∧ k < (tl : Int)
      · obtain ⟨q, hq⟩ : ∃ q : Nat, k = (q : Nat) := ⟨k.toNat, by omega⟩
        subst hq
        obtain ⟨z, hz⟩ : ∃ z, kids[q]? = some z := ⟨kids[q]'(by omega), List.getElem?_eq_getElem (by omega)⟩
        have hne : kids ≠ [] := by rintro rfl; simp at hz
        obtain ⟨bk, ok, rfl, hbk, hkk⟩ := hkids.resolve_left hne
        obtain ⟨⟨c0, c1, c2, c3⟩, hTz⟩ := hkk q z hz
        replace c0 : W1.cell? ⟨bk, ok + q * 4, none⟩ = some (.int .i64 z.tv.k) := (hbw.cell (p := ⟨bk, ok + q * 4, none⟩) hbk).trans c0
        replace c1 : W1.cell? ⟨bk, ok + q * 4 + 1, none⟩ = some (.int .i64 z.tv.N) := (hbw.cell (p := ⟨bk, ok + q * 4 + 1, none⟩) hbk).trans c1
        replace c2 : W1.cell? ⟨bk, ok + q * 4 + 2, none⟩ = some (.string z.tv.s) := (hbw.cell (p := ⟨bk, ok + q * 4 + 2, none⟩) hbk).trans c2
        replace c3 : W1.cell? ⟨bk, ok + q * 4 + 3, none⟩ = some (.slice z.tv.a z.tv.len z.tv.cap) := (hbw.cell (p := ⟨bk, ok + q * 4 + 3, none⟩) hbk).trans c3
        have hat : atT ((q : Int) :: r) (n := n + 1) ((⟨tk, tN, ts, some ⟨bk, ok, none⟩, tl, tc⟩, kids) : TV × List (Tm n)) = atT r z := atT_go rfl hz
        have HAT := hide hat
        have hq1 : (q : Int) < tl := by omega
        have hq0 : ¬ (q : Int) < 0 := by omega
        have hq2 : ¬ (tl : Int) ≤ q := by omega
        have hq3 : decide ((q : Int) < 0) = false := decide_eq_false hq0
        have hq4 : decide (tl ≤ q) = false := decide_eq_false (by omega)
        have hq5 : decide ((tl : Int) ≤ (q : Int)) = false := decide_eq_false hq2
        have hq6 : q < tl := by omega
        have hdr2 : Below W.heap.size W W1.drew.drew := hbw.drew.drew
        have ihz := ((unhide HI) n z A (len - 1) (cap - 1) W1.drew.drew ((unhide HN).below hdr2) (by omega) ((hTz.below hdr2).mono hdr2.size)).mono (R' := fun e W2 => Below W1.heap.size W1 W2 ∧ ∃ (x : TV) (f : Bool), e = .returned (.tuple #[x.val, .bool f]) ∧ ((atT r z = none ∧ x = zeroT ∧ f = false) ∨ ∃ (m : Nat) (u : Tm m), atT r z = some ⟨m, u⟩ ∧ x = u.tv ∧ f = true)) (fun e W2 h => by
          obtain ⟨g1, g2⟩ := h
          refine ⟨(Below.refl _ W1).drew.drew.trans g1, ?_⟩
          rcases g2 with ⟨g2, g3⟩ | ⟨m, u, g2, g3⟩
          · exact ⟨zeroT, false, g3, .inl ⟨g2, rfl, rfl⟩⟩
          · exact ⟨u.tv, true, g3, .inr ⟨m, u, g2, rfl, rfl⟩⟩)
        simp only [TV.val] at ihz
        have hy0 : W.heap.size < W1.heap.size := hH.ba.lt
        have hy1 : W.heap.size + 1 < W1.heap.size := hH.lt
        have hy2 : pb < W1.heap.size := Nat.lt_of_lt_of_le hpb hbw.size
        have hy3 : bk < W1.heap.size := Nat.lt_of_lt_of_le hbk hbw.size
        have hsl : len ≤ cap := hcap
        have hn1 : W.heap.size + 1 ≠ pb := by omega
        have hn2 : W.heap.size + 1 ≠ bk := by omega
        have hn3 : W.heap.size + 1 ≠ W.heap.size := by omega
        clear hkids hkk hTz hz hne hat hin hH hN hN' ih hlen hl0 hdr2 p0 y0 y1 y2 y3
        go_enter Tryz.func40, Tryz.ntmps40
        go_wp2_with fail
        clear hW1
        go_region
        go_wp2_with fail
        go_region_held3 (fun w' => w'.cell? ⟨W.heap.size, 3, none⟩ = some (.slice (some ⟨bk, ok, none⟩) tl tc) ∧ w'.cell? ⟨pb, off, none⟩ = some (.int .i64 (q : Int)) ∧ w'.cell? ⟨bk, ok + q * 4, none⟩ = some (.int .i64 z.tv.k) ∧ w'.cell? ⟨bk, ok + q * 4 + 1, none⟩ = some (.int .i64 z.tv.N) ∧ w'.cell? ⟨bk, ok + q * 4 + 2, none⟩ = some (.string z.tv.s) ∧ w'.cell? ⟨bk, ok + q * 4 + 3, none⟩ = some (.slice z.tv.a z.tv.len z.tv.cap)) (go_keep)
          (first | (go_at_call 40; refine ihz.mono ?_; clear ihz; rintro e W5 ⟨hb5, x, f, rfl, hx⟩; have HX := hide hx; clear hx; have hbd := bcell hb5; obtain ⟨-, y0, y1, y2, y3⟩ := zbox_kept ((hb5.block (W.heap.size + 1) hy1).trans hzb)))
        have hB5 : Below W.heap.size W W5 := hbw.trans (hb5.mono hbw.size)
        have hbf : Below W.heap.size W (set4 W5 (W.heap.size + 1) 0 x) := set4_below hB5 (by omega) 0 x
        obtain ⟨⟨q0, q1, q2, q3⟩, -⟩ := zbox_kept ((hb5.block (W.heap.size + 1) hy1).trans hzb)
        have HF := hide hbf
        clear hbf hB5 hb5 hbd z0 z1 z2 z3
        go_wp2_with fail
        refine bodyPost_ret (v := .tuple #[x.val, .bool f]) (by simp [results, Tryz.results40, go_sem, TV.val, q0, q1, q2, q3]) rfl ⟨unhide HF, ?_⟩
        rw [unhide HAT]
        rcases unhide HX with ⟨g1, rfl, rfl⟩ | ⟨m, u, g1, rfl, rfl⟩
        · exact .inl ⟨g1, rfl⟩
        · exact .inr ⟨m, u, g1, rfl⟩
      · have hno : atT (k :: r) (n := n + 1) ((⟨tk, tN, ts, ta, tl, tc⟩, kids) : TV × List (Tm n)) = none := atT_no (by simpa [Tm.kids, ← hlen] using hin)
        have HNO := hide hno
        have hbf := set4_below (hbw.drew) (b := W.heap.size + 1) (by omega) 0 zeroT
        unfold zeroT at hbf
        have HF := hide hbf
        by_cases hk0 : k < 0
        · have hk0' : decide (k < 0) = true := decide_eq_true hk0
          clear hkids hN hN' ih hlen hl0 hin hno hbf hbw hH p0
          go_enter Tryz.func40, Tryz.ntmps40
          go_wp2_with fail
          clear hW1
          go_region
          go_wp2_with fail
          exact bodyPost_ret (v := .tuple #[zeroT.val, .bool false]) (by simp [results, Tryz.results40, go_sem, TV.val, zeroT, z0, z1, z2, z3]) rfl ⟨unhide HF, .inl ⟨unhide HNO, rfl⟩⟩
        · have hk1 : (tl : Int) ≤ k := by omega
          have hk0' : decide (k < 0) = false := decide_eq_false hk0
          have hk1' : decide ((tl : Int) ≤ k) = true := decide_eq_true hk1
          clear hkids hN hN' ih hlen hl0 hin hno hbf hbw hH p0
          go_enter Tryz.func40, Tryz.ntmps40
          go_wp2_with fail
          clear hW1
          go_region
          go_wp2_with fail
          exact bodyPost_ret (v := .tuple #[zeroT.val, .bool false]) (by simp [results, Tryz.results40, go_sem, TV.val, zeroT, z0, z1, z2, z3]) rfl ⟨unhide HF, .inl ⟨unhide HNO, rfl⟩⟩
end Go.Proofs.YtcjeeagnfmipgaaGreatDoor

/- Rows of pairs of terms: in memory (IsP), and made by a call (MadeP). -/
namespace Go.Proofs.YtcjeeagnfmipgaaGreatDoor
open Go.RowKit Go.Shelf Go.Maps

def pRow (p : TV × TV) : List Value := p.1.row ++ p.2.row
def cpP {n : Nat} (ps : List (Tm n × Tm n)) : List Pr := ps.map fun p => (code p.1, code p.2)
theorem pRow_at : ∀ (l : List (TV × TV)) (j : Nat) (p : TV × TV), l[j]? = some p → ∀ (q : Nat) u, (pRow p)[q]? = some u → (l.flatMap pRow)[j * 8 + q]? = some u
  | [], j, p, h => by simp at h
  | y :: l, 0, p, h => by
    simp at h; subst h
    intro q u hq
    rw [List.flatMap_cons, Nat.zero_mul, Nat.zero_add, List.getElem?_append_left (List.getElem?_eq_some_iff.1 hq).1]
    exact hq
  | y :: l, j + 1, p, h => by
    intro q u hq
    have ih := pRow_at l j p (by simpa using h) q u hq
    rw [List.flatMap_cons, List.getElem?_append_right (by simp [pRow, TV.row]; omega)]
    have : (j + 1) * 8 + q - (pRow y).length = j * 8 + q := by simp [pRow, TV.row]; omega
    rw [this]
    exact ih
theorem pRow_one : ∀ (l : List (TV × TV)), ∀ u ∈ l.flatMap pRow, u.oneCell' = true := by
  intro l u hu
  obtain ⟨p, _, hp⟩ := List.mem_flatMap.1 hu
  rcases List.mem_append.1 hp with h | h
  · exact row_one u h
  · exact row_one u h
theorem pRow_len (l : List (TV × TV)) : (l.flatMap pRow).length = l.length * 8 := by
  induction l with
  | nil => rfl
  | cons x l ih => rw [List.flatMap_cons, List.length_append, ih]; simp [pRow, TV.row]; omega

/-- Pairs of terms in memory. -/
def IsP (n₀ : Nat) (W : World) {n : Nat} (a : Option Addr) (len : Nat) (ps : List (Tm n × Tm n)) : Prop :=
  len = ps.length ∧ len ≤ 1152921504606846976 ∧ (ps = [] ∨ ∃ b off, a = some ⟨b, off, none⟩ ∧ b < n₀ ∧ ∀ (j : Nat) p, ps[j]? = some p → cellsAt W b (off + j * 8) p.1.tv ∧ cellsAt W b (off + j * 8 + 4) p.2.tv ∧ IsT n₀ W p.1 ∧ IsT n₀ W p.2)
theorem IsP.below {n₀ : Nat} {A B : World} (h : Below n₀ A B) {n : Nat} {a : Option Addr} {len : Nat} {ps : List (Tm n × Tm n)} (hl : IsP n₀ A a len ps) : IsP n₀ B a len ps := by
  obtain ⟨h1, h2, h3⟩ := hl
  refine ⟨h1, h2, ?_⟩
  rcases h3 with h3 | ⟨b, off, ha, hb, hk⟩
  · exact .inl h3
  · refine .inr ⟨b, off, ha, hb, fun j p hp => ?_⟩
    obtain ⟨k1, k2, k3, k4⟩ := hk j p hp
    exact ⟨k1.kept (h.block b hb), k2.kept (h.block b hb), k3.below h, k4.below h⟩
theorem IsP.mono {n₀ n₁ : Nat} (hle : n₀ ≤ n₁) {A : World} {n : Nat} {a : Option Addr} {len : Nat} {ps : List (Tm n × Tm n)} (hl : IsP n₀ A a len ps) : IsP n₁ A a len ps := by
  obtain ⟨h1, h2, h3⟩ := hl
  refine ⟨h1, h2, ?_⟩
  rcases h3 with h3 | ⟨b, off, ha, hb, hk⟩
  · exact .inl h3
  · exact .inr ⟨b, off, ha, by omega, fun j p hp => by
      obtain ⟨k1, k2, k3, k4⟩ := hk j p hp
      exact ⟨k1, k2, k3.mono hle, k4.mono hle⟩⟩
/-- The j-th pair, in a later world. -/
theorem pair_at {n : Nat} {w wr : World} {a : Option Addr} {len : Nat} {ps : List (Tm n × Tm n)} (hl : IsP w.heap.size w a len ps) (hbw : Below w.heap.size w wr) {j : Nat} (hj : j < len) :
    ∃ u v b off, ps[j]? = some (u, v) ∧ a = some ⟨b, off, none⟩ ∧ b < w.heap.size ∧ IsT wr.heap.size wr u ∧ IsT wr.heap.size wr v ∧ cellsAt wr b (off + j * 8) u.tv ∧ cellsAt wr b (off + j * 8 + 4) v.tv := by
  obtain ⟨h1, h2, h3⟩ := hl.below hbw
  obtain ⟨p, hp⟩ : ∃ p, ps[j]? = some p := ⟨ps[j]'(by omega), List.getElem?_eq_getElem (by omega)⟩
  have hne : ps ≠ [] := by rintro rfl; simp at hp
  obtain ⟨b, off, ha, hb, hk⟩ := h3.resolve_left hne
  obtain ⟨k1, k2, k3, k4⟩ := hk j p hp
  exact ⟨p.1, p.2, b, off, hp, ha, hb, k3.mono hbw.size, k4.mono hbw.size, k1, k2⟩

/-- Pairs that a call keeps in a row of its own; their terms lie below n₀. -/
structure MadeP (D n₀ base : Nat) (W : World) (v : Value) (l : List (TV × TV)) (c : List Pr) : Prop where
  owns : W.ownsRow base 114 8 v l.length (l.flatMap pRow)
  lim : D ≤ 2199023255552
  kids : ∀ M, D ≤ M → M ≤ 2199023255552 → ∃ ks : List (Tm M × Tm M), ks.map (fun p => (p.1.tv, p.2.tv)) = l ∧ (∀ p ∈ ks, IsT n₀ W p.1 ∧ IsT n₀ W p.2) ∧ cpP ks = c
theorem MadeP.zero (D n₀ base : Nat) (W : World) (hD : D ≤ 2199023255552 := by omega) : MadeP D n₀ base W (.slice none 0 0) [] [] :=
  ⟨⟨rfl, .inl ⟨rfl, rfl⟩⟩, hD, fun _ _ _ => ⟨[], rfl, (fun u hu => by cases hu), rfl⟩⟩
theorem MadeP.slice {D n₀ base : Nat} {W : World} {v : Value} {l : List (TV × TV)} {c : List Pr} (h : MadeP D n₀ base W v l c) : ∃ a cap, v = .slice a l.length cap := by
  obtain ⟨_, h2⟩ := h.owns
  rcases h2 with ⟨hv, hn⟩ | ⟨g, cap, cur, hv, _⟩
  · exact ⟨none, 0, by rw [hv, hn]⟩
  · exact ⟨_, cap, hv⟩
theorem MadeP.len {D n₀ base : Nat} {W : World} {v : Value} {l : List (TV × TV)} {c : List Pr} (h : MadeP D n₀ base W v l c) : c.length = l.length := by
  obtain ⟨ks, k1, _, k3⟩ := h.kids D (Nat.le_refl _) h.lim
  rw [← k1, ← k3]; simp [cpP]
theorem MadeP.isP {D n₀ base : Nat} {W : World} {v : Value} {l : List (TV × TV)} {c : List Pr} (h : MadeP D n₀ base W v l c) (hl : l.length ≤ 1152921504606846976) (hn : n₀ ≤ W.heap.size) :
    ∃ a cap, v = .slice a l.length cap ∧ ∀ M, D ≤ M → M ≤ 2199023255552 → ∃ ks : List (Tm M × Tm M), IsP W.heap.size W a l.length ks ∧ cpP ks = c ∧ ∀ p ∈ ks, IsT n₀ W p.1 ∧ IsT n₀ W p.2 := by
  obtain ⟨_, h2⟩ := h.owns
  rcases h2 with ⟨hv, hn'⟩ | ⟨g, cap, cur, hv, hg, hb, hnc, _, hcs, htk⟩
  · have hnil : l = [] := List.length_eq_zero_iff.1 hn'
    subst hnil
    refine ⟨none, 0, hv, fun M hM hlm => ?_⟩
    obtain ⟨ks, k1, k2, k3⟩ := h.kids M hM hlm
    have hk : ks = [] := by simpa using k1
    exact ⟨ks, ⟨by simp [hk], by simp, .inl hk⟩, k3, k2⟩
  · refine ⟨some ⟨g, 0, none⟩, cap, hv, fun M hM hlm => ?_⟩
    obtain ⟨ks, k1, k2, k3⟩ := h.kids M hM hlm
    have hkl : l.length = ks.length := by rw [← k1]; simp
    have hc : ∀ q u, (l.flatMap pRow)[q]? = some u → W.cell? ⟨g, q, none⟩ = some u := fun q u hq => by
      rw [← htk, List.getElem?_take] at hq
      split at hq
      · simp [World.cell?, hb]
        simpa using hq
      · cases hq
    refine ⟨ks, ⟨hkl, hl, .inr ⟨g, 0, rfl, (Array.getElem?_eq_some_iff.1 hb).1, fun j p hp => ?_⟩⟩, k3, k2⟩
    have hlj : l[j]? = some (p.1.tv, p.2.tv) := by rw [← k1, List.getElem?_map, hp]; rfl
    have hr := pRow_at l j _ hlj
    rw [Nat.zero_add]
    obtain ⟨z1, z2⟩ := k2 p (List.mem_of_getElem? hp)
    exact ⟨⟨hc _ _ (by simpa using hr 0 _ rfl), hc _ _ (hr 1 _ rfl), hc _ _ (hr 2 _ rfl), hc _ _ (hr 3 _ rfl)⟩, ⟨hc _ _ (hr 4 _ rfl), hc _ _ (hr 5 _ rfl), hc _ _ (hr 6 _ rfl), hc _ _ (hr 7 _ rfl)⟩, z1.mono hn, z2.mono hn⟩
theorem MadeP.below {D n₀ base : Nat} {W W' : World} {v : Value} {l : List (TV × TV)} {c : List Pr} (h : MadeP D n₀ base W v l c) (hb : Below W.heap.size W W') (hn : n₀ ≤ W.heap.size) : MadeP D n₀ base W' v l c :=
  ⟨owns_below h.owns (fun g hg => hb.block g (owns_lt h.owns hg).2), h.lim, fun M hM hlm => by
    obtain ⟨ks, k1, k2, k3⟩ := h.kids M hM hlm
    exact ⟨ks, k1, fun p hp => ⟨(k2 p hp).1.below (hb.mono hn), (k2 p hp).2.below (hb.mono hn)⟩, k3⟩⟩
/-- More of them, behind an append. -/
theorem MadeP.next {D n₀ base base' : Nat} {W W6 w' : World} {v v' v6 : Value} {l l' : List (TV × TV)} {c c' : List Pr} (h : MadeP D n₀ base W v l c) (hb : Below n₀ W W6) (h6 : MadeP D n₀ base' W6 v6 l' c')
    (hown : w'.ownsRow base 114 8 v' (l.length + l'.length) (l.flatMap pRow ++ l'.flatMap pRow)) (hg : Below n₀ W6 w') : MadeP D n₀ base w' v' (l ++ l') (c ++ c') := by
  refine ⟨by simpa [List.flatMap_append] using hown, h.lim, fun M hM hlm => ?_⟩
  obtain ⟨ks, k1, k2, k3⟩ := h.kids M hM hlm
  obtain ⟨ks', j1, j2, j3⟩ := h6.kids M hM hlm
  refine ⟨ks ++ ks', by simp [k1, j1], fun p hp => ?_, by unfold cpP at *; simp [k3, j3]⟩
  rcases List.mem_append.1 hp with hp | hp
  · exact ⟨((k2 p hp).1.below hb).below hg, ((k2 p hp).2.below hb).below hg⟩
  · exact ⟨(j2 p hp).1.below hg, (j2 p hp).2.below hg⟩
theorem pRow_src {D n₀ base : Nat} {W : World} {v : Value} {l : List (TV × TV)} {c : List Pr} (h : MadeP D n₀ base W v l c) (h1 : 1 ≤ l.length) :
    ∃ g cap, v = .slice (some ⟨g, 0, none⟩) l.length cap ∧ ∀ j u, (l.flatMap pRow)[j]? = some u → W.cell? ((⟨g, 0, none⟩ : Addr).add j) = some u := by
  obtain ⟨_, h2⟩ := h.owns
  rcases h2 with ⟨_, hn⟩ | ⟨g, cap, cur, hv, hg, hb, _, _, _, htk⟩
  · omega
  · refine ⟨g, cap, hv, fun j u hj => ?_⟩
    rw [addr_add, Nat.zero_add]
    rw [← htk, List.getElem?_take] at hj
    split at hj
    · simp [World.cell?, hb]
      simpa using hj
    · cases hj
theorem Tryz.info_pair : (Tryz.prog.info? 114).map (fun i => (i.zero, i.size, i.bytes)) = some (some (.agg #[.int .i64 0, .int .i64 0, .string ⟨#[]⟩, .slice none 0 0, .int .i64 0, .int .i64 0, .string ⟨#[]⟩, .slice none 0 0]), 8, 112) := by kernel_rfl
/-- One row of pairs behind another. -/
theorem MadeP.append {D n₀ base base' : Nat} {W : World} {v v' : Value} {l l' : List (TV × TV)} {c c' : List Pr} (h : MadeP D n₀ base W v l c) (h' : MadeP D n₀ base' W v' l' c') (ty : TypeId) (hl : l.length + l'.length ≤ 1000000000) (hn : n₀ ≤ base) (hb : base ≤ W.heap.size) :
    ∃ u w', (Builtin.append_ #[110, 110] ty #[v, v']).run Tryz.prog W = .ok u w' ∧ MadeP D n₀ base w' u (l ++ l') (c ++ c') ∧ W.grownBy w' v.ownBlock := by
  obtain ⟨i0, hi, hz0, hz1, hz2⟩ := info_parts Tryz.info_pair
  by_cases h0 : l' = []
  · subst h0
    have hc0 : c' = [] := List.length_eq_zero_iff.1 (by rw [h'.len]; rfl)
    subst hc0
    obtain ⟨_, g2⟩ := h'.owns
    rcases g2 with ⟨hv, _⟩ | ⟨g, cap, cur, hv, hg, hbk, hnc, hcm, hcs, htk⟩
    · rw [hv]
      exact ⟨v, W, run_append_owned_none (P := Tryz.prog) (w := W) base 110 ty 114 i0 8 Tryz.underlying110 hi v _ _ h.owns, by simpa using h, ⟨rfl, rfl, rfl, Nat.le_refl _, fun _ _ _ => rfl⟩⟩
    · obtain ⟨u, w', hr, hown, hgrow, _⟩ := run_append_own_at (P := Tryz.prog) W base 110 ty 114 i0 _ 8 112 Tryz.underlying110 hi hz0 hz1 hz2 rfl (by decide) v _ _ h.owns ⟨g, 0, none⟩ 0 cap [] rfl (fun j u hj => by simp at hj) (fun u hu => by cases hu) (by unfold maxLen; omega) (by omega) hb
      rw [hv]
      exact ⟨u, w', hr, h.next (Below.refl _ _) (MadeP.zero D n₀ base W h.lim) (by simpa using hown) ((Below.refl _ W).grown hgrow (by omega) (fun g hg => Nat.le_trans hn (owns_lt h.owns hg).1)), hgrow⟩
  · obtain ⟨g, cap, hv, hsrc⟩ := pRow_src h' (by cases l' with | nil => exact (h0 rfl).elim | cons _ _ => simp)
    obtain ⟨u, w', hr, hown, hgrow, _⟩ := run_append_own_at (P := Tryz.prog) W base 110 ty 114 i0 _ 8 112 Tryz.underlying110 hi hz0 hz1 hz2 rfl (by decide) v _ _ h.owns ⟨g, 0, none⟩ l'.length cap (l'.flatMap pRow) (pRow_len _) hsrc (pRow_one _) (by unfold maxLen; omega) (by omega) hb
    rw [hv]
    exact ⟨u, w', hr, h.next (Below.refl _ _) h' hown ((Below.refl _ W).grown hgrow (by omega) (fun g hg => Nat.le_trans hn (owns_lt h.owns hg).1)), hgrow⟩
end Go.Proofs.YtcjeeagnfmipgaaGreatDoor

/- The contract of hornref.nth: where a pair stands in a row of pairs. -/
namespace Go.Proofs.YtcjeeagnfmipgaaGreatDoor
open Go.RowKit Go.Shelf Go.Maps

/-- What nth answers. -/
def nthI (cs : List Pr) (q : Pr) : Int := if q ∈ cs then (cs.idxOf q : Nat) else -1
theorem nthI_at {cs : List Pr} {q : Pr} {j : Nat} (h : cs[j]? = some q) (hn : ∀ (i : Nat) p, cs[i]? = some p → i < j → p ≠ q) : nthI cs q = (j : Nat) := by
  unfold nthI
  rw [if_pos (List.mem_of_getElem? h)]
  obtain ⟨hj, hjN⟩ := List.getElem?_eq_some_iff.1 h
  have h1 : cs.idxOf q < cs.length := List.idxOf_lt_length_of_mem (List.mem_of_getElem? h)
  have h2 : cs[cs.idxOf q] = q := List.getElem_idxOf h1
  have h3 : ¬ cs.idxOf q < j := fun hlt => hn _ _ (List.getElem?_eq_getElem h1) hlt h2
  have h4 : ¬ j < cs.idxOf q := fun hlt => by
    have := List.not_of_lt_findIdx (p := (· == q)) (xs := cs) (i := j) hlt
    simp [hjN] at this
  have : cs.idxOf q = j := by omega
  rw [this]
theorem nthI_no {cs : List Pr} {q : Pr} (h : q ∉ cs) : nthI cs q = -1 := if_neg h

set_option maxRecDepth 100000 in
set_option maxHeartbeats 2000000 in
theorem nth_any {n : Nat} (ps : List (Tm n × Tm n)) (a : Option Addr) (len cap : Nat) (x y : Tm n) (w : World) (hps : IsP w.heap.size w a len ps) (hx : IsT w.heap.size w x) (hy : IsT w.heap.size w y) :
    Calls Tryz.prog 81 #[.slice a len cap, x.tv.val, y.tv.val] w fun e W' => e = .returned (.int .i64 (nthI (cpP ps) (code x, code y))) ∧ Below w.heap.size w W' := by
  have h1 := hps.1
  have h2 := hps.2.1
  have hl1 : len ≤ ps.length := by omega
  have hl2 : ps.length ≤ len := by omega
  clear h1
  obtain ⟨W1, hW1, hB1, hba, hbb, hsz⟩ := two_new w x.tv y.tv
  have HP := hide hps
  have HX := hide hx
  have HY := hide hy
  have HB1 := hide hB1
  have HBA := hide hba
  have HBB := hide hbb
  have HSZ := hide hsz
  clear hps hx hy hB1 hba hbb hsz
  simp only [TV.val]
  go_enter Tryz.func81, Tryz.ntmps81
  go_wp2_with fail
  clear hW1
  go_loopw [7] (fun i wr => ∃ j : Nat, j ≤ len ∧ i = .int .i64 j ∧ (∀ (i : Nat) p, (cpP ps)[i]? = some p → i < j → p ≠ (code x, code y)) ∧ Below W1.heap.size W1 wr) (fun i _ => len - (intOf i).toNat)
  case atStart => exact ⟨0, Nat.zero_le _, rfl, fun i p _ h => by omega, Below.refl _ _⟩
  case round =>
    obtain ⟨j, hj, rfl, hs, hb⟩ := hrel
    have hbw : Below w.heap.size w wr := (unhide HB1).trans (hb.mono (unhide HB1).size)
    have HS := hide hs
    clear hs
    by_cases hlt : j < len
    · obtain ⟨u, v, b, off, hu, rfl, hbk, hTu, hTv, ⟨c0, c1, c2, c3⟩, ⟨d0, d1, d2, d3⟩⟩ := pair_at (unhide HP) hbw hlt
      have hxr : IsT wr.heap.size wr x := ((unhide HX).below hbw).mono hbw.size
      have hyr : IsT wr.heap.size wr y := ((unhide HY).below hbw).mono hbw.size
      have hcj : (cpP ps)[j]? = some (code u, code v) := by unfold cpP; rw [List.getElem?_map, hu]; rfl
      have hbax : BoxT wr w.heap.size x.tv := (hb.block _ (by have := unhide HSZ; omega)).trans (unhide HBA)
      have hbbx : BoxT wr (w.heap.size + 1) y.tv := (hb.block _ (by have := unhide HSZ; omega)).trans (unhide HBB)
      have e0 := hbax.c0
      have e1 := hbax.c1
      have e2 := hbax.c2
      have e3 := hbax.c3
      have f0 := hbbx.c0
      have f1 := hbbx.c1
      have f2 := hbbx.c2
      have f3 := hbbx.c3
      have hdr : Below wr.heap.size wr wr.drew := (Below.refl _ wr).drew
      have hs1 : Calls Tryz.prog 41 #[.agg #[.int .i64 u.tv.k, .int .i64 u.tv.N, .string u.tv.s, .slice u.tv.a u.tv.len u.tv.cap], .agg #[.int .i64 x.tv.k, .int .i64 x.tv.N, .string x.tv.s, .slice x.tv.a x.tv.len x.tv.cap]] wr.drew fun e W2 => e = .returned (.bool (decide (code u = code x))) ∧ Below wr.heap.size wr W2 := by
        have h := same_any n u x wr.drew (hTu.below hdr) (hxr.below hdr)
        rw [sameT_code hTu.wl hxr.wl] at h
        exact h.mono fun e W2 h => ⟨h.1, hdr.trans h.2⟩
      have hs2 : ∀ W2, Below wr.heap.size wr W2 → Calls Tryz.prog 41 #[.agg #[.int .i64 v.tv.k, .int .i64 v.tv.N, .string v.tv.s, .slice v.tv.a v.tv.len v.tv.cap], .agg #[.int .i64 y.tv.k, .int .i64 y.tv.N, .string y.tv.s, .slice y.tv.a y.tv.len y.tv.cap]] W2 fun e W3 => e = .returned (.bool (decide (code v = code y))) ∧ Below wr.heap.size wr W3 := fun W2 hb2 => by
        have h := same_any n v y W2 ((hTv.below hb2).mono hb2.size) ((hyr.below hb2).mono hb2.size)
        rw [sameT_code hTv.wl hyr.wl] at h
        exact h.mono fun e W3 h => ⟨h.1, hb2.trans (h.2.mono hb2.size)⟩
      have hy0 : w.heap.size < wr.heap.size := hbax.lt
      have hy1 : w.heap.size + 1 < wr.heap.size := hbbx.lt
      have hy2 : b < wr.heap.size := by have := hbw.size; omega
      have hj1 : (j : Int) < len := by omega
      have hnext : (code u, code v) ≠ (code x, code y) → ∀ (i : Nat) p, (cpP ps)[i]? = some p → i < j + 1 → p ≠ (code x, code y) := fun hne i p hp hi => by
        by_cases e : i = j
        · subst e; rw [hcj] at hp; cases hp; exact hne
        · exact (unhide HS) i p hp (by omega)
      have hfound : code u = code x → code v = code y → nthI (cpP ps) (code x, code y) = (j : Nat) := fun e1 e2 => nthI_at (by rw [hcj, e1, e2]) (unhide HS)
      have HN := hide hnext
      have HF := hide hfound
      have HS2 := hide hs2
      clear hTu hTv hxr hyr hcj hbax hbbx hdr hnext hfound hs2 hu
      by_cases hux : code u = code x
      · rw [decide_eq_true hux] at hs1
        by_cases hvy : code v = code y
        · have HFO := hide ((unhide HF) hux hvy)
          have hs3 := fun W2 hb2 => (unhide HS2) W2 hb2
          rw [decide_eq_true hvy] at hs3
          clear hux hvy
          go_wp2_with fail
          go_region_held3 (fun w' => w'.cell? ⟨b, off + j * 8, none⟩ = some (.int .i64 u.tv.k) ∧ w'.cell? ⟨b, off + j * 8 + 1, none⟩ = some (.int .i64 u.tv.N) ∧ w'.cell? ⟨b, off + j * 8 + 2, none⟩ = some (.string u.tv.s) ∧ w'.cell? ⟨b, off + j * 8 + 3, none⟩ = some (.slice u.tv.a u.tv.len u.tv.cap)
            ∧ w'.cell? ⟨b, off + j * 8 + 4, none⟩ = some (.int .i64 v.tv.k) ∧ w'.cell? ⟨b, off + j * 8 + 4 + 1, none⟩ = some (.int .i64 v.tv.N) ∧ w'.cell? ⟨b, off + j * 8 + 4 + 2, none⟩ = some (.string v.tv.s) ∧ w'.cell? ⟨b, off + j * 8 + 4 + 3, none⟩ = some (.slice v.tv.a v.tv.len v.tv.cap)
            ∧ w'.cell? ⟨w.heap.size, 0, none⟩ = some (.int .i64 x.tv.k) ∧ w'.cell? ⟨w.heap.size, 1, none⟩ = some (.int .i64 x.tv.N) ∧ w'.cell? ⟨w.heap.size, 2, none⟩ = some (.string x.tv.s) ∧ w'.cell? ⟨w.heap.size, 3, none⟩ = some (.slice x.tv.a x.tv.len x.tv.cap)
            ∧ w'.cell? ⟨w.heap.size + 1, 0, none⟩ = some (.int .i64 y.tv.k) ∧ w'.cell? ⟨w.heap.size + 1, 1, none⟩ = some (.int .i64 y.tv.N) ∧ w'.cell? ⟨w.heap.size + 1, 2, none⟩ = some (.string y.tv.s) ∧ w'.cell? ⟨w.heap.size + 1, 3, none⟩ = some (.slice y.tv.a y.tv.len y.tv.cap)) (go_keep)
            (first | (go_at_call 41; refine hs1.mono ?_; clear hs1; rintro e W2 ⟨rfl, hb2⟩; have hbc := bcell hb2) | (go_at_call 41; refine (hs3 W2 hb2).mono ?_; clear hs3; rintro e W3 ⟨rfl, hb3⟩; have hbd := bcell hb3))
          clear hbc hbd
          go_wp2_with fail
          go_ret
          exact ⟨by rw [unhide HFO]; rfl, hbw.trans (hb3.mono hbw.size)⟩
        · have hne : (code u, code v) ≠ (code x, code y) := fun e => hvy (congrArg Prod.snd e)
          have HNN := hide ((unhide HN) hne)
          have hs3 := fun W2 hb2 => (unhide HS2) W2 hb2
          rw [decide_eq_false hvy] at hs3
          clear hux hvy hne
          go_wp2_with fail
          go_region_held3 (fun w' => w'.cell? ⟨b, off + j * 8, none⟩ = some (.int .i64 u.tv.k) ∧ w'.cell? ⟨b, off + j * 8 + 1, none⟩ = some (.int .i64 u.tv.N) ∧ w'.cell? ⟨b, off + j * 8 + 2, none⟩ = some (.string u.tv.s) ∧ w'.cell? ⟨b, off + j * 8 + 3, none⟩ = some (.slice u.tv.a u.tv.len u.tv.cap)
            ∧ w'.cell? ⟨b, off + j * 8 + 4, none⟩ = some (.int .i64 v.tv.k) ∧ w'.cell? ⟨b, off + j * 8 + 4 + 1, none⟩ = some (.int .i64 v.tv.N) ∧ w'.cell? ⟨b, off + j * 8 + 4 + 2, none⟩ = some (.string v.tv.s) ∧ w'.cell? ⟨b, off + j * 8 + 4 + 3, none⟩ = some (.slice v.tv.a v.tv.len v.tv.cap)
            ∧ w'.cell? ⟨w.heap.size, 0, none⟩ = some (.int .i64 x.tv.k) ∧ w'.cell? ⟨w.heap.size, 1, none⟩ = some (.int .i64 x.tv.N) ∧ w'.cell? ⟨w.heap.size, 2, none⟩ = some (.string x.tv.s) ∧ w'.cell? ⟨w.heap.size, 3, none⟩ = some (.slice x.tv.a x.tv.len x.tv.cap)
            ∧ w'.cell? ⟨w.heap.size + 1, 0, none⟩ = some (.int .i64 y.tv.k) ∧ w'.cell? ⟨w.heap.size + 1, 1, none⟩ = some (.int .i64 y.tv.N) ∧ w'.cell? ⟨w.heap.size + 1, 2, none⟩ = some (.string y.tv.s) ∧ w'.cell? ⟨w.heap.size + 1, 3, none⟩ = some (.slice y.tv.a y.tv.len y.tv.cap)) (go_keep)
            (first | (go_at_call 41; refine hs1.mono ?_; clear hs1; rintro e W2 ⟨rfl, hb2⟩; have hbc := bcell hb2) | (go_at_call 41; refine (hs3 W2 hb2).mono ?_; clear hs3; rintro e W3 ⟨rfl, hb3⟩; have hbd := bcell hb3))
          clear hbc hbd
          go_wp2_with fail
          go_roundw
          case rel => exact ⟨j + 1, by omega, by go_num, unhide HNN, hb.trans (hb3.mono hb.size)⟩
          case measure => simp [intOf]; omega
      · rw [decide_eq_false hux] at hs1
        have hne : (code u, code v) ≠ (code x, code y) := fun e => hux (congrArg Prod.fst e)
        have HNN := hide ((unhide HN) hne)
        clear hux hne
        go_wp2_with fail
        refine wp_region_noPanic ?_
        refine wp_region_held_drew (S := (fun w' => w'.cell? ⟨b, off + j * 8, none⟩ = some (.int .i64 u.tv.k) ∧ w'.cell? ⟨b, off + j * 8 + 1, none⟩ = some (.int .i64 u.tv.N) ∧ w'.cell? ⟨b, off + j * 8 + 2, none⟩ = some (.string u.tv.s) ∧ w'.cell? ⟨b, off + j * 8 + 3, none⟩ = some (.slice u.tv.a u.tv.len u.tv.cap) ∧ w'.cell? ⟨b, off + j * 8 + 4, none⟩ = some (.int .i64 v.tv.k) ∧ w'.cell? ⟨b, off + j * 8 + 4 + 1, none⟩ = some (.int .i64 v.tv.N) ∧ w'.cell? ⟨b, off + j * 8 + 4 + 2, none⟩ = some (.string v.tv.s) ∧ w'.cell? ⟨b, off + j * 8 + 4 + 3, none⟩ = some (.slice v.tv.a v.tv.len v.tv.cap) ∧ w'.cell? ⟨w.heap.size, 0, none⟩ = some (.int .i64 x.tv.k) ∧ w'.cell? ⟨w.heap.size, 1, none⟩ = some (.int .i64 x.tv.N) ∧ w'.cell? ⟨w.heap.size, 2, none⟩ = some (.string x.tv.s) ∧ w'.cell? ⟨w.heap.size, 3, none⟩ = some (.slice x.tv.a x.tv.len x.tv.cap) ∧ w'.cell? ⟨w.heap.size + 1, 0, none⟩ = some (.int .i64 y.tv.k) ∧ w'.cell? ⟨w.heap.size + 1, 1, none⟩ = some (.int .i64 y.tv.N) ∧ w'.cell? ⟨w.heap.size + 1, 2, none⟩ = some (.string y.tv.s) ∧ w'.cell? ⟨w.heap.size + 1, 3, none⟩ = some (.slice y.tv.a y.tv.len y.tv.cap))) (by kernel_rfl) ?_ (fun hHeld => ?_)
        · go_keep
        refine wpAnyH_take (i := 0) (oi := { dst := some 14, op := Op.move (Operand.tmp 0), type := 110, pos := "term.go:280", after := #[], guard := none }) (v := ?_) rfl (by kernel_rfl) (by kernel_rfl) (by kernel_rfl) (fun _ _ _ h => h) (Or.inl ⟨by rfl, ?_⟩) hHeld ?_
        rotate_left
        · (intro w' hSw; (try dsimp only at hSw); go_simp; try with_reducible rfl)
        try simp only [Act.put, List.setIfInBounds_toArray, List.set_cons_zero, List.set_cons_succ]
        refine wpAnyH_take (i := 1) (oi := { dst := some 15, op := Op.move (Operand.tmp 7), type := 3, pos := "term.go:280", after := #[], guard := none }) (v := ?_) rfl (by kernel_rfl) (by kernel_rfl) (by kernel_rfl) (fun _ _ _ h => h) (Or.inl ⟨by rfl, ?_⟩) hHeld ?_
        rotate_left
        · (intro w' hSw; (try dsimp only at hSw); go_simp; try with_reducible rfl)
        try simp only [Act.put, List.setIfInBounds_toArray, List.set_cons_zero, List.set_cons_succ]
        refine wpAnyH_take (i := 2) (oi := { dst := some 16, op := Op.indexAddr 110 (Operand.tmp 14) (Operand.tmp 15), type := 0, pos := "term.go:280", after := #[{ on := 0, ground := Ground.data }, { on := 1, ground := Ground.data }], guard := none }) (v := ?_) rfl (by kernel_rfl) (by kernel_rfl) (by kernel_rfl) (fun _ _ _ h => h) (Or.inl ⟨by rfl, ?_⟩) hHeld ?_
        rotate_left
        · (intro w' hSw; (try dsimp only at hSw); go_simp; try with_reducible rfl)
        try simp only [Act.put, List.setIfInBounds_toArray, List.set_cons_zero, List.set_cons_succ]
        refine wpAnyH_take (i := 3) (oi := { dst := some 17, op := Op.fieldAddr 114 (Operand.tmp 16) 0, type := 0, pos := "term.go:280", after := #[{ on := 2, ground := Ground.data }], guard := none }) (v := ?_) rfl (by kernel_rfl) (by kernel_rfl) (by kernel_rfl) (fun _ _ _ h => h) (Or.inl ⟨by rfl, ?_⟩) hHeld ?_
        rotate_left
        · (intro w' hSw; (try dsimp only at hSw); go_simp; try with_reducible rfl)
        try simp only [Act.put, List.setIfInBounds_toArray, List.set_cons_zero, List.set_cons_succ]
        refine wpAnyH_take (i := 4) (oi := { dst := some 18, op := Op.load 24 (Operand.tmp 17), type := 24, pos := "term.go:280", after := #[{ on := 3, ground := Ground.data }], guard := none }) (v := ?_) rfl (by kernel_rfl) (by kernel_rfl) (by kernel_rfl) (fun _ _ _ h => h) (Or.inl ⟨by rfl, ?_⟩) hHeld ?_
        rotate_left
        · (intro w' hSw; (try dsimp only at hSw); go_simp; try with_reducible rfl)
        try simp only [Act.put, List.setIfInBounds_toArray, List.set_cons_zero, List.set_cons_succ]
        refine wpAnyH_take (i := 5) (oi := { dst := some 19, op := Op.load 24 (Operand.tmp 4), type := 24, pos := "term.go:280", after := #[], guard := none }) (v := ?_) rfl (by kernel_rfl) (by kernel_rfl) (by kernel_rfl) (fun _ _ _ h => h) (Or.inl ⟨by rfl, ?_⟩) hHeld ?_
        rotate_left
        · (intro w' hSw; (try dsimp only at hSw); go_simp; try with_reducible rfl)
        try simp only [Act.put, List.setIfInBounds_toArray, List.set_cons_zero, List.set_cons_succ]
        refine wpAnyH_ready (rs := [6]) (by kernel_rfl) (by simp) ?_
        refine AllReadyH.cons (o := { dst := some 20, op := Op.call { callee := Callee.value (Operand.func 41), args := #[Operand.tmp 18, Operand.tmp 19], argTypes := #[24, 24] }, type := 4, pos := "term.go:280", after := #[{ on := 4, ground := Ground.data }, { on := 5, ground := Ground.data }], guard := none }) rfl (fun K hK => ?_) AllReadyH.nil
        have hHold := hHeld
        clear hHeld
        go_simp
        refine hs1.mono ?_
        clear hs1
        rintro e W2 ⟨rfl, hb2⟩
        have hbc := bcell hb2
        go_wp2_with fail
        refine hK.out _ _ ?_ (fun hHeld => ?_)
        · ((try dsimp only); go_keep)
        clear hK K hHold
        try simp only [Act.put, List.setIfInBounds_toArray, List.set_cons_zero, List.set_cons_succ]
        refine wpAnyH_take (i := 7) (oi := { dst := some 21, op := Op.move (Operand.tmp 20), type := 4, pos := "term.go:280", after := #[{ on := 6, ground := Ground.data }, { on := 6, ground := Ground.chain }], guard := none }) (v := ?_) rfl (by kernel_rfl) (by kernel_rfl) (by kernel_rfl) (fun _ _ _ h => h) (Or.inl ⟨by rfl, ?_⟩) hHeld ?_
        rotate_left
        · (intro w' hSw; (try dsimp only at hSw); go_simp; try with_reducible rfl)
        try simp only [Act.put, List.setIfInBounds_toArray, List.set_cons_zero, List.set_cons_succ]
        refine wpAnyH_take (i := 8) (oi := { dst := some 22, op := Op.move (Operand.tmp 0), type := 110, pos := "term.go:280", after := #[{ on := 7, ground := Ground.guard }], guard := some (7, true) }) (v := undef) rfl (by kernel_rfl) (by kernel_rfl) (by kernel_rfl) (fun _ _ _ h => h) (Or.inr ⟨by rfl, rfl⟩) hHeld ?_
        try simp only [Act.put, List.setIfInBounds_toArray, List.set_cons_zero, List.set_cons_succ]
        refine wpAnyH_take (i := 9) (oi := { dst := some 23, op := Op.move (Operand.tmp 7), type := 3, pos := "term.go:280", after := #[{ on := 7, ground := Ground.guard }], guard := some (7, true) }) (v := undef) rfl (by kernel_rfl) (by kernel_rfl) (by kernel_rfl) (fun _ _ _ h => h) (Or.inr ⟨by rfl, rfl⟩) hHeld ?_
        try simp only [Act.put, List.setIfInBounds_toArray, List.set_cons_zero, List.set_cons_succ]
        refine wpAnyH_take (i := 10) (oi := { dst := some 24, op := Op.indexAddr 110 (Operand.tmp 22) (Operand.tmp 23), type := 0, pos := "term.go:280", after := #[{ on := 8, ground := Ground.data }, { on := 9, ground := Ground.data }, { on := 7, ground := Ground.guard }], guard := some (7, true) }) (v := undef) rfl (by kernel_rfl) (by kernel_rfl) (by kernel_rfl) (fun _ _ _ h => h) (Or.inr ⟨by rfl, rfl⟩) hHeld ?_
        try simp only [Act.put, List.setIfInBounds_toArray, List.set_cons_zero, List.set_cons_succ]
        refine wpAnyH_take (i := 11) (oi := { dst := some 25, op := Op.fieldAddr 114 (Operand.tmp 24) 1, type := 0, pos := "term.go:280", after := #[{ on := 10, ground := Ground.data }, { on := 7, ground := Ground.guard }], guard := some (7, true) }) (v := undef) rfl (by kernel_rfl) (by kernel_rfl) (by kernel_rfl) (fun _ _ _ h => h) (Or.inr ⟨by rfl, rfl⟩) hHeld ?_
        try simp only [Act.put, List.setIfInBounds_toArray, List.set_cons_zero, List.set_cons_succ]
        refine wpAnyH_take (i := 12) (oi := { dst := some 26, op := Op.load 24 (Operand.tmp 25), type := 24, pos := "term.go:280", after := #[{ on := 11, ground := Ground.data }, { on := 7, ground := Ground.guard }], guard := some (7, true) }) (v := undef) rfl (by kernel_rfl) (by kernel_rfl) (by kernel_rfl) (fun _ _ _ h => h) (Or.inr ⟨by rfl, rfl⟩) hHeld ?_
        try simp only [Act.put, List.setIfInBounds_toArray, List.set_cons_zero, List.set_cons_succ]
        refine wpAnyH_take (i := 13) (oi := { dst := some 27, op := Op.load 24 (Operand.tmp 5), type := 24, pos := "term.go:280", after := #[{ on := 7, ground := Ground.guard }], guard := some (7, true) }) (v := undef) rfl (by kernel_rfl) (by kernel_rfl) (by kernel_rfl) (fun _ _ _ h => h) (Or.inr ⟨by rfl, rfl⟩) hHeld ?_
        try simp only [Act.put, List.setIfInBounds_toArray, List.set_cons_zero, List.set_cons_succ]
        refine wpAnyH_take (i := 14) (oi := { dst := some 28, op := Op.call { callee := Callee.value (Operand.func 41), args := #[Operand.tmp 26, Operand.tmp 27], argTypes := #[24, 24] }, type := 4, pos := "term.go:280", after := #[{ on := 12, ground := Ground.data }, { on := 13, ground := Ground.data }, { on := 7, ground := Ground.chain }, { on := 7, ground := Ground.guard }], guard := some (7, true) }) (v := undef) rfl (by kernel_rfl) (by kernel_rfl) (by kernel_rfl) (fun _ _ _ h => h) (Or.inr ⟨by rfl, rfl⟩) hHeld ?_
        try simp only [Act.put, List.setIfInBounds_toArray, List.set_cons_zero, List.set_cons_succ]
        refine wpAnyH_take (i := 15) (oi := { dst := some 29, op := Op.pick (Operand.tmp 21) (Operand.tmp 28) (Operand.const (Value.bool false)), type := 4, pos := "term.go:280", after := #[{ on := 7, ground := Ground.data }, { on := 14, ground := Ground.data }], guard := none }) (v := ?_) rfl (by kernel_rfl) (by kernel_rfl) (by kernel_rfl) (fun _ _ _ h => h) (Or.inl ⟨by rfl, ?_⟩) hHeld ?_
        rotate_left
        · (intro w' hSw; (try dsimp only at hSw); go_simp; try with_reducible rfl)
        try simp only [Act.put, List.setIfInBounds_toArray, List.set_cons_zero, List.set_cons_succ]
        refine wpAnyH_done (by kernel_rfl) ?_ _
        refine NoPanic.normal ?_
        clear hbc
        go_wp2_with fail
        go_roundw
        case rel => exact ⟨j + 1, by omega, by go_num, unhide HNN, hb.trans (hb2.mono hb.size)⟩
        case measure => simp [intOf]; omega
    · have hno : (code x, code y) ∉ cpP ps := fun h => by
        obtain ⟨i, hi⟩ := List.mem_iff_getElem?.1 h
        exact (unhide HS) i _ hi (by have := (List.getElem?_eq_some_iff.1 hi).1; simp [cpP] at this; omega) rfl
      have HNO := hide hno
      clear hno
      go_wp2_with fail
      go_ret
      exact ⟨by rw [nthI_no (unhide HNO)]; rfl, hbw⟩
end Go.Proofs.YtcjeeagnfmipgaaGreatDoor

