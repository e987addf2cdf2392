import Derived.Test.YtojefplapklbmaaGreatDoorSws
import Derived.Test.YtojefplapklbmaaGreatDoorPu
import Derived.Test.YtojefplapklbmaaGreatDoorGes
/- Copies whose blocks are all apart: the contract of term.Copy once more. -/
namespace Go.Proofs.YtojefplapklbmaaGreatDoor
open Go.RowKit Go.Shelf

/-- A block of terms' cells that may be written. -/
def Cell4 (W : World) (b : Nat) : Prop := ∃ arr : Array Value, W.heap[b]? = some (.cells arr 24 (0, 0))
theorem Cell4.lt {W : World} {b : Nat} (h : Cell4 W b) : b < W.heap.size := by obtain ⟨_, h⟩ := h; exact (Array.getElem?_eq_some_iff.1 h).1
theorem Cell4.kept {W W' : World} {b : Nat} (h : Cell4 W b) (hb : W'.heap[b]? = W.heap[b]?) : Cell4 W' b := by obtain ⟨a, h⟩ := h; exact ⟨a, hb.trans h⟩
/-- The value v is a term of the code c, its blocks all apart, from block lo on. -/
def HoldsN (D lo : Nat) (W : World) (v : Value) (c : List Nd) : Prop :=
  ∀ m, D ≤ m → m ≤ 2199023255552 → ∃ t : Tm m, v = t.tv.val ∧ IsT W.heap.size W t ∧ NewW lo W t ∧ code t = c ∧ (blks t).Nodup ∧ ∀ b ∈ blks t, lo ≤ b ∧ Cell4 W b
theorem HoldsT.apart {D lo : Nat} {W : World} {v : Value} {c : List Nd} (h : HoldsT D lo W v c) : HoldsN D lo W v c := fun m hm hlim => by
  obtain ⟨t, h1, h2, h3, h4⟩ := h m hm
  exact ⟨t, h1, h2 hlim, h3, h4, h3.ap, fun b hb => ⟨(h3.wh.blks_in b hb).1, (h3.wh.blks_in b hb).2.2⟩⟩
/-- term.Copy: the copy's blocks are all apart. -/
theorem copy_sep {n : Nat} (t : Tm n) (W : World) (hT : IsT W.heap.size W t) (hok : okT t = true) :
    Calls Tryz.prog 68 #[t.tv.val] W fun e W' => ∃ x : TV, e = .returned x.val ∧ Below W.heap.size W W' ∧ HoldsN (n + 1) W.heap.size W' x.val (code t) :=
  (copy_any t W hT hok).mono fun e W' h => by
    obtain ⟨x, h1, h2, h3⟩ := h
    exact ⟨x, h1, h2, h3.apart⟩
end Go.Proofs.YtojefplapklbmaaGreatDoor

/- The contract of term.Put: a copy with another term at a path (putC). -/
namespace Go.Proofs.YtojefplapklbmaaGreatDoor
open Go.RowKit Go.Shelf Go.Maps

/-- Where the part at a path lies. -/
def addrT : List Int → {n : Nat} → Tm n → Nat → Nat → Option (Nat × Nat)
  | [], _, _, b, o => some (b, o)
  | _ :: _, 0, t, _, _ => Empty.elim t
  | k :: r, _ + 1, t, _, _ => if 0 ≤ k ∧ k < (t.kids.length : Int) then (t.kids[k.toNat]?).bind fun u => t.tv.a.bind fun ad => addrT r u ad.block (ad.off + k.toNat * 4) else none
theorem addrT_go {k : Int} {r : List Int} {n : Nat} {t : Tm (n + 1)} {u : Tm n} {j bk off b o : Nat} (hk : k = (j : Nat)) (hu : t.kids[j]? = some u) (ha : t.tv.a = some ⟨bk, off, none⟩) : addrT (k :: r) t b o = addrT r u bk (off + j * 4) := by
  subst hk
  have hj := (List.getElem?_eq_some_iff.1 hu).1
  simp only [addrT]
  rw [if_pos ⟨by omega, by omega⟩, Int.toNat_natCast, hu, ha]
  rfl
theorem addrT_no {k : Int} {r : List Int} {n : Nat} {t : Tm (n + 1)} {b o : Nat} (hk : ¬ (0 ≤ k ∧ k < (t.kids.length : Int))) : addrT (k :: r) t b o = none := by
  simp only [addrT]
  rw [if_neg hk]
def ptrV : Option (Nat × Nat) → Value
  | none => .pointer none
  | some (b, o) => .pointer (some ⟨b, o, none⟩)

set_option maxRecDepth 100000 in
set_option maxHeartbeats 2000000 in
theorem placeOf_addr {n₀ n : Nat} (ns : List Int) (a : Option Addr) (len cap : Nat) (t : Tm n) (b o : Nat) (W : World) (hN : IsN W a len ns) (hc : cellsAt W b o t.tv) (hT : IsT n₀ W t) :
    Calls Tryz.prog 67 #[.pointer (some ⟨b, o, none⟩), .slice a len cap] W fun e W' => e = .returned (ptrV (addrT ns t b o)) ∧ W' = W := by
  have h1 := hN.1
  have h2 := hN.2.1
  have hl1 : len ≤ ns.length := by omega
  have hl2 : ns.length ≤ len := by omega
  clear h1
  have HN := hide hN
  clear hN
  obtain ⟨R, hR⟩ : ∃ R, addrT ns t b o = R := ⟨_, rfl⟩
  rw [hR]
  go_enter Tryz.func67, Tryz.ntmps67
  go_wp2_with fail
  go_loop [0, 9] (fun p i => ∃ (j m : Nat) (u : Tm m) (b o : Nat), j ≤ len ∧ i = .int .i64 j ∧ p = .pointer (some ⟨b, o, none⟩) ∧ cellsAt W b o u.tv ∧ IsT n₀ W u ∧ R = addrT (ns.drop j) u b o) (fun _ i => len - (intOf i).toNat)
  case atStart => exact ⟨0, n, t, b, o, Nat.zero_le _, rfl, rfl, hc, hT, hR.symm⟩
  case round =>
    obtain ⟨j, m, u, b, o, hj, rfl, rfl, hcu, hTu, hat⟩ := hrel
    clear hR
    by_cases hlt : j < len
    · obtain ⟨k, pb, off, hk, rfl, c0⟩ := num_at (unhide HN) hlt
      have hdrop : ns.drop j = k :: ns.drop (j + 1) := by
        obtain ⟨hj', hk'⟩ := List.getElem?_eq_some_iff.1 hk
        rw [List.drop_eq_getElem_cons hj', hk']
      rw [hdrop] at hat
      have hj1 : (j : Int) < len := by omega
      cases m with
      | zero => exact Empty.elim u
      | succ m =>
        obtain ⟨⟨uk, uN, us, ua, ul, uc⟩, kids⟩ := u
        obtain ⟨d0, d1, d2, d3⟩ := hcu
        obtain ⟨hlen, hmax, hsm, hkids⟩ := hTu
        simp only [Tm.tv, Tm.kids] at hlen hmax hkids d3
        by_cases hin : 0 ≤ k ∧ k < (ul : Int)
        · obtain ⟨q, hq⟩ : ∃ q : Nat, k = (q : Nat) := ⟨k.toNat, by omega⟩
          subst hq
          have hql : q < kids.length := by omega
          obtain ⟨z, hz⟩ : ∃ z, kids[q]? = some z := ⟨kids[q], List.getElem?_eq_getElem hql⟩
          have hne : kids ≠ [] := by rintro rfl; simp at hz
          obtain ⟨bk, ok, rfl, hbk, hkk⟩ := hkids.resolve_left hne
          obtain ⟨hcz, hTz⟩ := hkk q z hz
          have hnx : R = addrT (ns.drop (j + 1)) z bk (ok + q * 4) := hat.trans (addrT_go rfl hz rfl)
          have hq1 : (q : Int) < ul := by omega
          have hq0 : ¬ (q : Int) < 0 := by omega
          have hq2 : q < ul := by omega
          have HX := hide (And.intro hcz (And.intro hTz hnx))
          clear hcz hTz hnx hkk hkids hz hne hat hdrop hin hsm d0 d1 d2
          go_wp2_with fail
          exact ⟨⟨j + 1, m, z, bk, ok + q * 4, by omega, by go_num, rfl, (unhide HX).1, (unhide HX).2.1, (unhide HX).2.2⟩, by simp [intOf]; omega⟩
        · have hno : R = none := hat.trans (addrT_no (by simpa [Tm.kids, ← hlen] using hin))
          have HNO := hide hno
          clear hno hat hdrop hkids hsm d0 d1 d2
          by_cases hk0 : k < 0
          · go_wp2_with fail
            go_ret
            exact ⟨by rw [unhide HNO]; rfl, rfl⟩
          · have hk1 : (ul : Int) ≤ k := by omega
            go_wp2_with fail
            go_ret
            exact ⟨by rw [unhide HNO]; rfl, rfl⟩
    · have hd : ns.drop j = [] := List.drop_of_length_le (by omega)
      rw [hd] at hat
      have HAT := hide hat
      clear hat hd
      go_wp2_with fail
      go_ret
      exact ⟨by rw [unhide HAT]; rfl, rfl⟩

theorem addr_none : ∀ (ns : List Int) {n : Nat} {t : Tm n} {n₀ b o : Nat} {W : World}, IsT n₀ W t → (addrT ns t b o = none ↔ atT ns t = none)
  | [], _, _, _, _, _, _, _ => by simp [addrT, atT]
  | _ :: _, 0, t, _, _, _, _, _ => Empty.elim t
  | k :: r, n + 1, t, n₀, b, o, W, hT => by
    by_cases hin : 0 ≤ k ∧ k < (t.kids.length : Int)
    · obtain ⟨q, hq⟩ : ∃ q : Nat, k = (q : Nat) := ⟨k.toNat, by omega⟩
      obtain ⟨z, hz⟩ : ∃ z, t.kids[q]? = some z := ⟨t.kids[q]'(by omega), List.getElem?_eq_getElem (by omega)⟩
      obtain ⟨_, _, _, h4⟩ := hT
      have hne : t.kids ≠ [] := fun e => by rw [e] at hz; simp at hz
      obtain ⟨bk, off, ha, _, hk⟩ := h4.resolve_left hne
      rw [addrT_go hq hz ha, atT_go hq hz]
      exact addr_none r (hk q z hz).2
    · rw [addrT_no hin, atT_no hin]
      simp
theorem blks_cons {n : Nat} {t : Tm (n + 1)} {bk off : Nat} (hne : t.kids ≠ []) (ha : t.tv.a = some ⟨bk, off, none⟩) : blks t = bk :: t.kids.flatMap blks := by
  show (if t.kids = [] then [] else (t.tv.a.map Addr.block).toList) ++ t.kids.flatMap blks = _
  rw [if_neg hne, ha]
  rfl
/-- The place is at the term's own address, or in one of its blocks. -/
theorem addr_in : ∀ (ns : List Int) {n : Nat} {t : Tm n} {n₀ b o b' o' : Nat} {W : World}, IsT n₀ W t → addrT ns t b o = some (b', o') → (b' = b ∧ o' = o) ∨ b' ∈ blks t
  | [], _, _, _, _, _, _, _, _, _, h => by simp [addrT] at h; exact .inl ⟨h.1.symm, h.2.symm⟩
  | _ :: _, 0, t, _, _, _, _, _, _, _, _ => Empty.elim t
  | k :: r, n + 1, t, n₀, b, o, b', o', W, hT, h => by
    by_cases hin : 0 ≤ k ∧ k < (t.kids.length : Int)
    · obtain ⟨q, hq⟩ : ∃ q : Nat, k = (q : Nat) := ⟨k.toNat, by omega⟩
      obtain ⟨z, hz⟩ : ∃ z, t.kids[q]? = some z := ⟨t.kids[q]'(by omega), List.getElem?_eq_getElem (by omega)⟩
      obtain ⟨_, _, _, h4⟩ := hT
      have hne : t.kids ≠ [] := fun e => by rw [e] at hz; simp at hz
      obtain ⟨bk, off, ha, _, hk⟩ := h4.resolve_left hne
      rw [addrT_go hq hz ha] at h
      rw [blks_cons hne ha]
      rcases addr_in r (hk q z hz).2 h with ⟨rfl, _⟩ | h
      · exact .inr List.mem_cons_self
      · exact .inr (List.mem_cons_of_mem _ (List.mem_flatMap.2 ⟨z, List.mem_of_getElem? hz, h⟩))
    · rw [addrT_no hin] at h
      cases h
theorem blkT_of {b' : Nat} : ∀ {n : Nat} {t : Tm n} {n₀ : Nat} {W : World}, IsT n₀ W t → b' ∉ blks t → BlkT (fun b => b ≠ b') t := by
  intro n
  induction n with
  | zero => intro t; exact Empty.elim t
  | succ n ih =>
    intro t n₀ W hT hb
    obtain ⟨_, _, _, h4⟩ := hT
    by_cases hne : t.kids = []
    · exact ⟨.inl hne, fun u hu => by rw [hne] at hu; cases hu⟩
    · obtain ⟨bk, off, ha, _, hk⟩ := h4.resolve_left hne
      rw [blks_cons hne ha] at hb
      refine ⟨.inr ⟨bk, off, ha, fun e => hb (by rw [e]; exact List.mem_cons_self)⟩, fun u hu => ?_⟩
      obtain ⟨i, hi⟩ := List.mem_iff_getElem?.1 hu
      exact ih (hk i u hi).2 fun h => hb (List.mem_cons_of_mem _ (List.mem_flatMap.2 ⟨u, hu, h⟩))
theorem blkT_in : ∀ {n : Nat} {t : Tm n} {n₀ : Nat} {W : World} {S : Nat → Prop}, IsT n₀ W t → (∀ b ∈ blks t, S b) → BlkT S t := by
  intro n
  induction n with
  | zero => intro t; exact Empty.elim t
  | succ n ih =>
    intro t n₀ W S hT hb
    obtain ⟨_, _, _, h4⟩ := hT
    by_cases hne : t.kids = []
    · exact ⟨.inl hne, fun u hu => by rw [hne] at hu; cases hu⟩
    · obtain ⟨bk, off, ha, _, hk⟩ := h4.resolve_left hne
      rw [blks_cons hne ha] at hb
      refine ⟨.inr ⟨bk, off, ha, hb _ List.mem_cons_self⟩, fun u hu => ?_⟩
      obtain ⟨i, hi⟩ := List.mem_iff_getElem?.1 hu
      exact ih (hk i u hi).2 fun b h => hb b (List.mem_cons_of_mem _ (List.mem_flatMap.2 ⟨u, hu, h⟩))
theorem lift_toS {n₀ : Nat} {S : Nat → Prop} {W : World} {n : Nat} {t : Tm n} (hT : IsT n₀ W t) (hS : BlkT S t) : ∀ M, n ≤ M → M ≤ 2199023255552 → ∃ t' : Tm M, t'.tv = t.tv ∧ IsT n₀ W t' ∧ BlkT S t' ∧ code t' = code t := fun M hM hlm => by
  obtain ⟨k, rfl⟩ : ∃ k, M = n + k := ⟨M - n, by omega⟩
  clear hM
  induction k with
  | zero => exact ⟨t, rfl, hT, hS, rfl⟩
  | succ k ih =>
    obtain ⟨t', h1, h2, h3, h4⟩ := ih (by omega)
    exact ⟨t'.lift, by rw [lift_tv]; exact h1, lift_isT h2 (by omega), lift_blk h3, by rw [lift_code]; exact h4⟩
theorem build {n M : Nat} : ∀ (kids : List (Tm n)) (P : Nat → Tm n → Tm M → Prop), (∀ (i : Nat) v, kids[i]? = some v → ∃ v', P i v v') → ∃ ks : List (Tm M), ks.length = kids.length ∧ ∀ (i : Nat) v v', kids[i]? = some v → ks[i]? = some v' → P i v v'
  | [], P, _ => ⟨[], rfl, fun i v v' h => by simp at h⟩
  | u :: kids, P, h => by
    obtain ⟨u', hu⟩ := h 0 u rfl
    obtain ⟨ks, h1, h2⟩ := build kids (fun i => P (i + 1)) (fun i v hv => h (i + 1) v (by simpa using hv))
    refine ⟨u' :: ks, by simp [h1], fun i v v' hv hv' => ?_⟩
    cases i with
    | zero => simp at hv hv'; subst hv; subst hv'; exact hu
    | succ i => exact h2 i v v' (by simpa using hv) (by simpa using hv')
theorem code_zip {n M : Nat} {g : Tm n × Nat → List Nd} : ∀ (kids : List (Tm n)) (ks : List (Tm M)) (s : Nat), ks.length = kids.length → (∀ (i : Nat) v v', kids[i]? = some v → ks[i]? = some v' → code v' = g (v, s + i)) → ks.flatMap code = (kids.zipIdx s).flatMap g
  | [], [], _, _, _ => rfl
  | [], _ :: _, _, h, _ => by simp at h
  | _ :: _, [], _, h, _ => by simp at h
  | v :: kids, v' :: ks, s, hl, h => by
    rw [List.flatMap_cons, List.zipIdx_cons, List.flatMap_cons, h 0 v v' rfl rfl]
    congr 1
    exact code_zip kids ks (s + 1) (by simpa using hl) fun i a a' ha ha' => by
      have := h (i + 1) a a' (by simpa using ha) (by simpa using ha')
      rw [show s + 1 + i = s + (i + 1) by omega]
      exact this

theorem nodup_mem {α β : Type} {f : α → List β} : ∀ (l : List α), (l.flatMap f).Nodup → ∀ v ∈ l, (f v).Nodup
  | [], _, v, hv => by cases hv
  | a :: l, h, v, hv => by
    rw [List.flatMap_cons, List.nodup_append] at h
    rcases List.mem_cons.1 hv with rfl | hv
    · exact h.1
    · exact nodup_mem l h.2.1 v hv
theorem nodup_dis {α β : Type} {f : α → List β} : ∀ (l : List α), (l.flatMap f).Nodup → ∀ (i j : Nat) v z, l[i]? = some v → l[j]? = some z → i ≠ j → ∀ x ∈ f v, x ∉ f z
  | [], _, i, _, _, _, hi, _, _, _, _ => by simp at hi
  | a :: l, h, i, j, v, z, hi, hj, hne, x, hx => by
    rw [List.flatMap_cons, List.nodup_append] at h
    cases i with
    | zero =>
      cases j with
      | zero => exact (hne rfl).elim
      | succ j =>
        simp at hi hj
        subst hi
        exact fun hz => h.2.2 x hx x (List.mem_flatMap.2 ⟨z, List.mem_of_getElem? hj, hz⟩) rfl
    | succ i =>
      simp only [List.getElem?_cons_succ] at hi
      cases j with
      | zero =>
        simp at hj
        subst hj
        exact fun hz => h.2.2 x hz x (List.mem_flatMap.2 ⟨v, List.mem_of_getElem? hi, hx⟩) rfl
      | succ j =>
        simp only [List.getElem?_cons_succ] at hj
        exact nodup_dis l h.2.1 i j v z hi hj (by omega) x hx

/-- What is written at the place of a path stands there; all else is as it was. -/
theorem put_world {N D : Nat} {S : Nat → Prop} {W : World} {y : TV} {cy : List Nd} {b' o' : Nat} (hyy : ∀ m, D ≤ m → m ≤ 2199023255552 → ∃ y' : Tm m, y'.tv = y ∧ IsT N (set4 W b' o' y) y' ∧ code y' = cy ∧ BlkT S y') :
    ∀ (ns : List Int) {n : Nat} {t : Tm n} {n₀ b o : Nat}, n₀ ≤ N → IsT n₀ W t → cellsAt W b o t.tv → (blks t).Nodup → b ∉ blks t → (∀ x ∈ blks t, S x) → addrT ns t b o = some (b', o') →
      ∀ m, n + D ≤ m → m ≤ 2199023255552 → ∃ t' : Tm m, cellsAt (set4 W b' o' y) b o t'.tv ∧ IsT N (set4 W b' o' y) t' ∧ code t' = putC ns t cy ∧ BlkT S t' := by
  intro ns
  induction ns with
  | nil =>
    intro n t n₀ b o hN hT hc hnd hb hSt had m hm hlm
    simp only [addrT, Option.some.injEq, Prod.mk.injEq] at had
    obtain ⟨rfl, rfl⟩ := had
    obtain ⟨y', h1, h2, h3, h5⟩ := hyy m (by omega) hlm
    refine ⟨y', ?_, h2, h3, h5⟩
    rw [h1]
    obtain ⟨c0, c1, c2, c3⟩ := hc
    exact set4_cells W b o y (by rw [c0]; rfl) (by rw [c1]; rfl) (by rw [c2]; rfl) (by rw [c3]; rfl)
  | cons k r ih =>
    intro n t n₀ b o hN hT hc hnd hb hSt had m hm hlm
    cases n with
    | zero => exact Empty.elim t
    | succ n =>
      by_cases hin : 0 ≤ k ∧ k < (t.kids.length : Int)
      · obtain ⟨q, hq⟩ : ∃ q : Nat, k = (q : Nat) := ⟨k.toNat, by omega⟩
        obtain ⟨z, hz⟩ : ∃ z, t.kids[q]? = some z := ⟨t.kids[q]'(by omega), List.getElem?_eq_getElem (by omega)⟩
        obtain ⟨g1, g2, g3, h4⟩ := hT
        have hne : t.kids ≠ [] := fun e => by rw [e] at hz; simp at hz
        obtain ⟨bk, off, ha, hbk, hk⟩ := h4.resolve_left hne
        rw [addrT_go hq hz ha] at had
        have hbl := blks_cons hne ha
        rw [hbl] at hnd hb hSt
        rw [List.nodup_cons] at hnd
        obtain ⟨hbk1, hnd2⟩ := hnd
        have hsub : ∀ {i : Nat} {v : Tm n}, t.kids[i]? = some v → ∀ x ∈ blks v, x ∈ t.kids.flatMap blks := fun hv x hx => List.mem_flatMap.2 ⟨_, List.mem_of_getElem? hv, hx⟩
        have hndz : ∀ {i : Nat} {v : Tm n}, t.kids[i]? = some v → (blks v).Nodup := fun {i v} hv => nodup_mem _ hnd2 v (List.mem_of_getElem? hv)
        have hdis : ∀ {i : Nat} {v : Tm n}, t.kids[i]? = some v → i ≠ q → ∀ x ∈ blks v, x ∉ blks z := fun {i v} hv hi x hx => nodup_dis _ hnd2 i q v z hv hz hi x hx
        obtain ⟨hcz, hTz⟩ := hk q z hz
        have hbin := addr_in r hTz had
        have hb'in : b' = bk ∨ b' ∈ blks z := by rcases hbin with ⟨h, _⟩ | h
                                                 · exact .inl h
                                                 · exact .inr h
        have hbne : b ≠ b' := fun e => hb (by
          rcases hb'in with h | h
          · rw [e, h]; exact List.mem_cons_self
          · rw [e]; exact List.mem_cons_of_mem _ (hsub hz _ h))
        obtain ⟨M, rfl⟩ : ∃ M, m = M + 1 := ⟨m - 1, by omega⟩
        obtain ⟨z', z1, z2, z3, z4⟩ := ih hN hTz hcz (hndz hz) (fun h => hbk1 (hsub hz _ h)) (fun x hx => hSt x (List.mem_cons_of_mem _ (hsub hz x hx))) had M (by omega) (by omega)
        obtain ⟨ks, hkl, hks⟩ := build (M := M) t.kids (fun i v v' => cellsAt (set4 W b' o' y) bk (off + i * 4) v'.tv ∧ IsT N (set4 W b' o' y) v' ∧ (code v' = if i = q then putC r v cy else code v) ∧ BlkT S v') (fun i v hv => by
          by_cases hi : i = q
          · subst hi
            rw [hz] at hv
            cases hv
            exact ⟨z', z1, z2, (by rw [if_pos rfl]; exact z3), z4⟩
          · obtain ⟨hcv, hTv⟩ := hk i v hv
            have hnot : b' ∉ blks v := fun h => by
              rcases hb'in with e | e
              · exact hbk1 (e ▸ hsub hv _ h)
              · exact hdis hv hi _ h e
            obtain ⟨v', v1, v2, v3, v4⟩ := lift_toS hTv ((blkT_of hTv hnot).and (blkT_in hTv (S := S) fun x hx => hSt x (List.mem_cons_of_mem _ (hsub hv x hx)))) M (by omega) (by omega)
            refine ⟨v', ?_, (v2.fromS (fun x hx => set4_other W b' o' y hx.1) v3).mono hN, (by rw [if_neg hi]; exact v4), v3.mono fun _ h => h.2⟩
            rw [v1]
            rcases hbin with ⟨e1, e2⟩ | e
            · rw [e1, e2]
              exact ⟨(set4_far W bk _ y (by omega)).trans hcv.1, (set4_far W bk _ y (by omega)).trans hcv.2.1, (set4_far W bk _ y (by omega)).trans hcv.2.2.1, (set4_far W bk _ y (by omega)).trans hcv.2.2.2⟩
            · exact hcv.kept (set4_other W b' o' y fun e' => hbk1 (e' ▸ hsub hz _ e)))
        refine ⟨((t.tv, ks) : TV × List (Tm M)), hc.kept (set4_other W b' o' y hbne), ⟨by rw [show Tm.kids (n := M) (t.tv, ks) = ks from rfl, hkl]; exact g1, ⟨g2.1, g2.2.1, hlm⟩, g3, .inr ⟨bk, off, ha, by omega, fun j u hu => ?_⟩⟩, ?_⟩
        · have hju : ks[j]? = some u := hu
          obtain ⟨v, hv⟩ : ∃ v, t.kids[j]? = some v := ⟨t.kids[j]'(by have := (List.getElem?_eq_some_iff.1 hju).1; omega), List.getElem?_eq_getElem _⟩
          obtain ⟨k1, k2, _⟩ := hks j v u hv hju
          exact ⟨k1, k2⟩
        · refine ⟨?_, .inr ⟨bk, off, ha, hSt _ List.mem_cons_self⟩, fun u hu => ?_⟩
          rotate_left
          · obtain ⟨j, hju⟩ := List.mem_iff_getElem?.1 hu
            have hju : ks[j]? = some u := hju
            obtain ⟨v, hv⟩ : ∃ v, t.kids[j]? = some v := ⟨t.kids[j]'(by have := (List.getElem?_eq_some_iff.1 hju).1; omega), List.getElem?_eq_getElem _⟩
            exact (hks j v u hv hju).2.2.2
          rw [code_succ, code_zip (g := fun p : Tm n × Nat => if p.2 = q then putC r p.1 cy else code p.1) t.kids ks 0 hkl (fun i v v' hv hv' => by simpa using (hks i v v' hv hv').2.2.1)]
          subst hq
          simp only [putC, putL, Int.toNat_natCast]
      · rw [addrT_no hin] at had
        cases had
end Go.Proofs.YtojefplapklbmaaGreatDoor

/- The contract of term.Put: a copy with another term at a path (putC). -/
namespace Go.Proofs.YtojefplapklbmaaGreatDoor
open Go.RowKit Go.Shelf Go.Maps

theorem put_zip {n m : Nat} {q : Nat} {f : Tm n → List Nd} {g : Tm m → List Nd} : ∀ (l : List (Tm n)) (r : List (Tm m)) (s : Nat), l.map code = r.map code → (∀ u ∈ l, ∀ v ∈ r, code u = code v → f u = g v) → ((l.zipIdx s).flatMap fun p => if p.2 = q then f p.1 else code p.1) = (r.zipIdx s).flatMap fun p => if p.2 = q then g p.1 else code p.1
  | [], [], _, _, _ => rfl
  | [], _ :: _, _, h, _ => by simp at h
  | _ :: _, [], _, h, _ => by simp at h
  | u :: l, v :: r, s, h, hf => by
    simp only [List.map_cons, List.cons.injEq] at h
    rw [List.zipIdx_cons, List.zipIdx_cons, List.flatMap_cons, List.flatMap_cons, put_zip l r (s + 1) h.2 fun a ha b hb => hf a (List.mem_cons_of_mem _ ha) b (List.mem_cons_of_mem _ hb)]
    congr 1
    by_cases hq : s = q
    · simp only [hq, if_true]
      exact hf u List.mem_cons_self v List.mem_cons_self h.1
    · simp only [if_neg hq]
      exact h.1
theorem code_at {n : Nat} (t : Tm (n + 1)) : code t = t.tv.nd :: t.kids.flatMap code := code_succ t.tv t.kids
/-- Terms of the same code have the same parts' places, and the same codes with another term there. -/
theorem at_code : ∀ (ns : List Int) {n m : Nat} (t : Tm n) (s : Tm m), Wl t → Wl s → code t = code s → (atT ns t = none ↔ atT ns s = none) ∧ ∀ c, putC ns t c = putC ns s c
  | [], _, _, _, _, _, _, _ => ⟨by simp [atT], fun c => rfl⟩
  | _ :: _, 0, _, t, _, _, _, _ => Empty.elim t
  | _ :: _, _ + 1, 0, _, s, _, _, _ => Empty.elim s
  | k :: r, n + 1, m + 1, t, s, ht, hs, he => by
    replace he : t.tv.nd :: t.kids.flatMap code = s.tv.nd :: s.kids.flatMap code := (code_at t).symm.trans (he.trans (code_at s))
    rw [List.cons.injEq] at he
    obtain ⟨hnd, hfl⟩ := he
    have hl : t.kids.length = s.kids.length := by
      have h1 := ht.1
      have h2 := hs.1
      have h3 : t.tv.len = s.tv.len := by
        have := congrArg (fun x : Nd => x.2.2.2) hnd
        exact this
      omega
    have hk := kids_codes _ _ hl ht.2 hs.2 hfl
    refine ⟨?_, fun c => ?_⟩
    · by_cases hin : 0 ≤ k ∧ k < (t.kids.length : Int)
      · obtain ⟨q, hq⟩ : ∃ q : Nat, k = (q : Nat) := ⟨k.toNat, by omega⟩
        obtain ⟨z, hz⟩ : ∃ z, t.kids[q]? = some z := ⟨t.kids[q]'(by omega), List.getElem?_eq_getElem (by omega)⟩
        obtain ⟨y, hy⟩ : ∃ y, s.kids[q]? = some y := ⟨s.kids[q]'(by omega), List.getElem?_eq_getElem (by omega)⟩
        rw [atT_go hq hz, atT_go hq hy]
        have hzy : code z = code y := by
          have h1 := congrArg (fun l => l[q]?) hk
          simpa [hz, hy] using h1
        exact (at_code r z y (ht.2 z (List.mem_of_getElem? hz)) (hs.2 y (List.mem_of_getElem? hy)) hzy).1
      · rw [atT_no hin, atT_no (by rw [← hl]; exact hin)]
    · simp only [putC, putL]
      rw [hnd, put_zip t.kids s.kids 0 hk fun u hu v hv e => (at_code r u v (ht.2 u hu) (hs.2 v hv) e).2 c]

set_option maxRecDepth 100000 in
set_option maxHeartbeats 2000000 in
theorem put_bad {n : Nat} (t u : Tm n) (a : Option Addr) (len cap : Nat) (w : World) (ht : IsT w.heap.size w t) (hu : IsT w.heap.size w u) (hok : [t, u].all okT = false) :
    Calls Tryz.prog 23 #[t.tv.val, .slice a len cap, u.tv.val] w fun e W' => e = .returned (.tuple #[zeroT.val, .int .i64 2]) ∧ Below w.heap.size w W' := by
  obtain ⟨W3, hW3, hB3, hba, hbb, hbz, hs3⟩ := three_z w t.tv u.tv
  have hck := checkPair t u w W3 ht hu hB3
  rw [chkL_no hok] at hck
  have hadr : (⟨W3.heap.size, 0, none⟩ : Addr) = ⟨w.heap.size + 1 + 1 + 1, 0, none⟩ := by rw [hs3]
  rw [hadr] at hck
  clear hadr
  have a0 := hba.c0
  have a1 := hba.c1
  have a2 := hba.c2
  have a3 := hba.c3
  have b0 := hbb.c0
  have b1 := hbb.c1
  have b2 := hbb.c2
  have b3 := hbb.c3
  simp only [TV.val, zeroT] at hck ⊢
  have HB3 := hide hB3
  have HBZ := hide hbz
  clear ht hu hok hB3 hba hbb hbz
  go_enter Tryz.func23, Tryz.ntmps23
  go_wp2_with fail
  refine hck.mono ?_
  clear hck a0 a1 a2 a3 b0 b1 b2 b3
  rintro e W5 ⟨rfl, hb5⟩
  have hB5 : Below w.heap.size w W5 := (unhide HB3).trans (hb5.mono (by omega))
  have hbz5 := (hb5.block _ (by omega)).trans (unhide HBZ)
  obtain ⟨⟨z0, z1, z2, z3⟩, y0, y1, y2, y3⟩ := zbox_kept hbz5
  have hbf := set4_below hB5 (b := w.heap.size + 2) (by omega) 0 zeroT
  unfold zeroT at hbf
  have HF := hide hbf
  clear hbf hbz5 hB5 hb5
  go_wp2_with fail
  exact bodyPost_ret (v := .tuple #[.agg #[.int .i64 0, .int .i64 0, .string ⟨#[]⟩, .slice none 0 0], .int .i64 2]) (by simp [results, Tryz.results23, go_sem, z0, z1, z2, z3]) rfl ⟨rfl, unhide HF⟩

/-- What Put answers, of terms. -/
def PutOf (D lo : Nat) (W' : World) (no : Prop) (c : List Nd) (x : TV) (e : Int) : Prop :=
  (no ∧ x = zeroT ∧ e = 8) ∨ (¬ no ∧ e = 0 ∧ HoldsS D (fun b => lo ≤ b) W' x.val c)
/-- A cell of a block that may be written is not frozen. -/
theorem Cell4.free {W : World} {b : Nat} (h : Cell4 W b) (o : Nat) : W.frozen? ⟨b, o, none⟩ = false := by
  obtain ⟨arr, h⟩ := h
  simp [World.frozen?, h]

theorem cellsAt_inj {W : World} {b o : Nat} {x y : TV} (hx : cellsAt W b o x) (hy : cellsAt W b o y) : x = y := by
  obtain ⟨x0, x1, x2, x3⟩ := hx
  obtain ⟨y0, y1, y2, y3⟩ := hy
  rw [x0] at y0
  rw [x1] at y1
  rw [x2] at y2
  rw [x3] at y3
  obtain ⟨k, N, s, a, l, c⟩ := x
  simp at y0 y1 y2 y3
  obtain ⟨k', N', s', a', l', c'⟩ := y
  simp_all
/-- Where the part at a path lies, there are four cells. -/
theorem addr_cells : ∀ (ns : List Int) {n : Nat} {t : Tm n} {n₀ b o b' o' : Nat} {W : World}, IsT n₀ W t → cellsAt W b o t.tv → addrT ns t b o = some (b', o') → ∃ v : TV, cellsAt W b' o' v
  | [], _, t, _, _, _, _, _, _, _, hc, h => by
    simp only [addrT, Option.some.injEq, Prod.mk.injEq] at h
    obtain ⟨rfl, rfl⟩ := h
    exact ⟨t.tv, hc⟩
  | _ :: _, 0, t, _, _, _, _, _, _, _, _, _ => Empty.elim t
  | k :: r, n + 1, t, n₀, b, o, b', o', W, hT, hc, h => by
    by_cases hin : 0 ≤ k ∧ k < (t.kids.length : Int)
    · obtain ⟨q, hq⟩ : ∃ q : Nat, k = (q : Nat) := ⟨k.toNat, by omega⟩
      obtain ⟨z, hz⟩ : ∃ z, t.kids[q]? = some z := ⟨t.kids[q]'(by omega), List.getElem?_eq_getElem (by omega)⟩
      obtain ⟨_, _, _, h4⟩ := hT
      have hne : t.kids ≠ [] := fun e => by rw [e] at hz; simp at hz
      obtain ⟨bk, off, ha, hbk, hk⟩ := h4.resolve_left hne
      rw [addrT_go hq hz ha] at h
      exact addr_cells r (hk q z hz).2 (hk q z hz).1 h
    · rw [addrT_no hin] at h
      cases h

/-- All that Put's last steps need, once the copy lies in its box and the place is known. -/
theorem put_last {n lo : Nat} {t1 : Tm (n + 1)} {ns : List Int} {cu : List Nd} {B b' o' : Nat} {W7 W8 : World} {y : TV} (hT : IsT W7.heap.size W7 t1) (hc : cellsAt W7 B 0 t1.tv) (hnd : (blks t1).Nodup) (hB : B ∉ blks t1) (hlo : ∀ b ∈ blks t1, lo ≤ b ∧ Cell4 W7 b) (hB4 : Cell4 W7 B) (hBlo : lo ≤ B)
    (hb8 : Below W7.heap.size W7 W8) (hy : HoldsT (n + 1) W7.heap.size W8 y.val cu) (had : addrT ns t1 B 0 = some (b', o')) (hlim : 2 * n + 2 ≤ 2199023255552) :
    (lo ≤ b' ∧ ∃ v : TV, cellsAt W8 b' o' v) ∧ Cell4 W8 b' ∧ ∃ x : TV, cellsAt (set4 W8 b' o' y) B 0 x ∧ ∀ m, 2 * n + 2 ≤ m → m ≤ 2199023255552 → ∃ t' : Tm m, t'.tv = x ∧ IsT W8.heap.size (set4 W8 b' o' y) t' ∧ code t' = putC ns t1 cu ∧ BlkT (fun b => lo ≤ b) t' := by
  have hin := addr_in ns hT had
  have h4 : lo ≤ b' ∧ Cell4 W7 b' := by
    rcases hin with ⟨rfl, _⟩ | h
    · exact ⟨hBlo, hB4⟩
    · exact hlo _ h
  have hT8 : IsT W7.heap.size W8 t1 := hT.below hb8
  have hc8 : cellsAt W8 B 0 t1.tv := hc.kept (hb8.block _ hB4.lt)
  obtain ⟨v, hv⟩ := addr_cells ns hT hc had
  refine ⟨⟨h4.1, v, hv.kept (hb8.block _ h4.2.lt)⟩, h4.2.kept (hb8.block _ h4.2.lt), ?_⟩
  have hyy : ∀ m, n + 1 ≤ m → m ≤ 2199023255552 → ∃ y' : Tm m, y'.tv = y ∧ IsT W8.heap.size (set4 W8 b' o' y) y' ∧ code y' = cu ∧ BlkT (fun b => lo ≤ b) y' := fun m hm hlm => by
    obtain ⟨y', e1, e2', e3, e4⟩ := hy m hm
    have e2 := e2' hlm
    have hb := e3.new.blk
    have hlt := h4.2.lt
    have hle := h4.1
    exact ⟨y', (TV.val_inj e1).symm, e2.fromS (fun b (h : W7.heap.size ≤ b) => set4_other _ _ _ _ (by omega)) hb, e4, hb.mono fun b (h : W7.heap.size ≤ b) => by show lo ≤ b; omega⟩
  have hput := put_world hyy ns hb8.size hT8 hc8 hnd hB (fun b hb => (hlo b hb).1) had
  obtain ⟨t', p1, p2, p3, p4⟩ := hput (2 * n + 2) (by omega) hlim
  refine ⟨t'.tv, p1, fun m hm hlm => ?_⟩
  obtain ⟨t2, q1, q2, q3, q4⟩ := hput m (by omega) hlm
  exact ⟨t2, cellsAt_inj q1 p1, q2, q3, q4⟩

set_option maxRecDepth 100000 in
set_option maxHeartbeats 4000000 in
theorem put_any {n : Nat} (t u : Tm n) (ns : List Int) (a : Option Addr) (len cap : Nat) (w : World) (ht : IsT w.heap.size w t) (hu : IsT w.heap.size w u) (okt : okT t = true) (oku : okT u = true) (hN : IsN w a len ns) (hn40 : n ≤ 549755813888 := by omega) :
    Calls Tryz.prog 23 #[t.tv.val, .slice a len cap, u.tv.val] w fun e W' => ∃ (x : TV) (r : Int), e = .returned (.tuple #[x.val, .int .i64 r]) ∧ Below w.heap.size w W' ∧ PutOf (2 * n + 2) w.heap.size W' (atT ns t = none) (putC ns t (code u)) x r := by
  obtain ⟨W3, hW3, hB3, hba, hbb, hbz, hs3⟩ := three_z w t.tv u.tv
  have hck := checkPair t u w W3 ht hu hB3
  rw [chkL_yes (show [t, u].all okT = true by simp [okt, oku])] at hck
  have hadr : (⟨W3.heap.size, 0, none⟩ : Addr) = ⟨w.heap.size + 1 + 1 + 1, 0, none⟩ := by rw [hs3]
  rw [hadr] at hck
  clear hadr
  have a0 := hba.c0
  have a1 := hba.c1
  have a2 := hba.c2
  have a3 := hba.c3
  have b0 := hbb.c0
  have b1 := hbb.c1
  have b2 := hbb.c2
  have b3 := hbb.c3
  have hct : ∀ W, Below w.heap.size w W → Calls Tryz.prog 68 #[t.tv.val] W fun e W' => ∃ x : TV, e = .returned x.val ∧ Below W.heap.size W W' ∧ HoldsN (n + 1) W.heap.size W' x.val (code t) := fun W hb => copy_sep t W ((ht.below hb).mono hb.size) okt
  have hcu : ∀ W, Below w.heap.size w W → Calls Tryz.prog 68 #[u.tv.val] W fun e W' => ∃ x : TV, e = .returned x.val ∧ Below W.heap.size W W' ∧ HoldsT (n + 1) W.heap.size W' x.val (code u) := fun W hb => copy_any u W ((hu.below hb).mono hb.size) oku
  have hsm : ∀ t1 : Tm (n + 1), Wl t1 → code t1 = code t → (atT ns t1 = none ↔ atT ns t = none) ∧ ∀ c, putC ns t1 c = putC ns t c := fun t1 h1 h2 => at_code ns t1 t h1 ht.wl h2
  have HCT := hide hct
  have HCU := hide hcu
  have HSM := hide hsm
  have HN := hide hN
  have HB3 := hide hB3
  have HBA := hide hba
  have HBB := hide hbb
  have HBZ := hide hbz
  simp only [TV.val] at hck ⊢
  clear ht hu okt oku hB3 hba hbb hbz hct hcu hsm hN
  go_enter Tryz.func23, Tryz.ntmps23
  go_wp2_with fail
  refine hck.mono ?_
  clear hck a0 a1 a2 a3 b0 b1 b2 b3
  rintro e W5 ⟨rfl, hb5⟩
  have hs5 := hb5.size
  have hB5 : Below w.heap.size w W5 := (unhide HB3).trans (hb5.mono (by omega))
  have hba5 := (unhide HBA).kept hb5
  have hbb5 := (unhide HBB).kept hb5
  have hbz5 := (hb5.block _ (by omega)).trans (unhide HBZ)
  have a0 := hba5.c0
  have a1 := hba5.c1
  have a2 := hba5.c2
  have a3 := hba5.c3
  have hc5 := (unhide HCT) W5 hB5
  simp only [TV.val] at hc5
  have HB5 := hide hB5
  have HBB5 := hide hbb5
  have HBZ5 := hide hbz5
  clear hB5 hba5 hbb5 hbz5 hb5
  go_wp2_with fail
  refine hc5.mono ?_
  clear hc5 a0 a1 a2 a3
  rintro e W6 ⟨x, rfl, hb6, hx6⟩
  obtain ⟨t1, ht1, hT1, -, hcd, hnd, hbl⟩ := hx6 (n + 1) (Nat.le_refl _) (by omega)
  obtain rfl := TV.val_inj ht1
  have hs6 := hb6.size
  obtain ⟨W7, hW7⟩ : ∃ W7, W6.alloc (.cells #[.int .i64 t1.tv.k, .int .i64 t1.tv.N, .string t1.tv.s, .slice t1.tv.a t1.tv.len t1.tv.cap] 24) = W7 := ⟨_, rfl⟩
  have hb7 : Below W6.heap.size W6 W7 := by rw [← hW7]; exact (Below.refl _ W6).alloc (Nat.le_refl _) _
  have hs7 : W7.heap.size = W6.heap.size + 1 := by rw [← hW7]; simp
  have hbx : BoxT W7 W6.heap.size t1.tv := by rw [← hW7]; exact World.alloc_heap_new W6 _
  have hB7 : Below w.heap.size w W7 := ((unhide HB5).trans (hb6.mono (unhide HB5).size)).trans (hb7.mono (by have := (unhide HB5).size; omega))
  have hT7 : IsT W6.heap.size W7 t1 := hT1.below hb7
  have hsm := (unhide HSM) t1 hT1.wl hcd
  have hc7 : cellsAt W7 W6.heap.size 0 t1.tv := ⟨hbx.c0, hbx.c1, hbx.c2, hbx.c3⟩
  have hpl := placeOf_addr ns a len cap t1 W6.heap.size 0 W7 ((unhide HN).below hB7) hc7 hT7
  have hno : addrT ns t1 W6.heap.size 0 = none ↔ atT ns t = none := (addr_none ns hT7).trans hsm.1
  have hla := fun (W8 : World) (y : TV) (b' o' : Nat) (hb8 : Below W7.heap.size W7 W8) (hy : HoldsT (n + 1) W7.heap.size W8 y.val (code u)) (had : addrT ns t1 W6.heap.size 0 = some (b', o')) =>
    put_last (lo := W5.heap.size) (hT7.mono (by omega)) hc7 hnd (fun h => by have := (hbl _ h).2.lt; omega) (fun b hb => ⟨(hbl b hb).1, (hbl b hb).2.kept (hb7.block _ (hbl b hb).2.lt)⟩) ⟨_, hbx⟩ hs6 hb8 hy had (by omega)
  rw [hsm.2 (code u)] at hla
  have hbz7 := (hb7.block _ (by omega)).trans ((hb6.block _ (by omega)).trans (unhide HBZ5))
  have hbb7 : BoxT W7 (w.heap.size + 1) u.tv := ((unhide HBB5).kept hb6).kept hb7
  have hcu7 := (unhide HCU) W7 hB7
  have HCU7 := hide hcu7
  have HLA := hide hla
  have HNO := hide hno
  have HBZ7 := hide hbz7
  have HBB7 := hide hbb7
  have HB7 := hide hB7
  clear hcu7 hla hno hbz7 hbb7 hB7 hc7 hsm hT7 hT1 hbx hb7 hb6 hx6 hbl hnd hcd HCU HSM HBZ5 HBB5 HB5 HCT HN HB3 HBA HBB HBZ ht1
  generalize addrT ns t1 W6.heap.size 0 = R at *
  go_wp2_with fail
  refine hpl.mono ?_
  clear hpl
  rintro e W7' ⟨rfl, rfl⟩
  have hsz7 := hs7
  rcases R with _ | ⟨b', o'⟩
  · obtain ⟨⟨z0, z1, z2, z3⟩, y0, y1, y2, y3⟩ := zbox_kept (unhide HBZ7)
    have hbf := set4_below (unhide HB7) (b := w.heap.size + 2) (by omega) 0 zeroT
    unfold zeroT at hbf
    have HF := hide hbf
    have hn := (unhide HNO).1 rfl
    have HNN := hide hn
    clear hbf HLA HNO HCU7 HBB7 hn
    simp only [ptrV]
    go_wp2_with fail
    exact bodyPost_ret (v := .tuple #[.agg #[.int .i64 0, .int .i64 0, .string ⟨#[]⟩, .slice none 0 0], .int .i64 8]) (by simp [results, Tryz.results23, go_sem, z0, z1, z2, z3]) rfl ⟨zeroT, 8, rfl, unhide HF, .inl ⟨unhide HNN, rfl, rfl⟩⟩
  · have hnn : ¬ atT ns t = none := fun h => by have := (unhide HNO).2 h; cases this
    have HNN := hide hnn
    have b0 := (unhide HBB7).c0
    have b1 := (unhide HBB7).c1
    have b2 := (unhide HBB7).c2
    have b3 := (unhide HBB7).c3
    have hc := unhide HCU7
    simp only [TV.val] at hc
    clear hnn HNO HCU7 HBB7
    simp only [ptrV]
    go_wp2_with fail
    refine hc.mono ?_
    clear hc b0 b1 b2 b3
    rintro e W8 ⟨y, rfl, hb8, hy8⟩
    obtain ⟨⟨hlo, v, v0, v1, v2, v3⟩, hfr, x, ⟨x0, x1, x2, x3⟩, hx⟩ := (unhide HLA) W8 y b' o' hb8 hy8 rfl
    have f0 := hfr.free o'
    have f1 := hfr.free (o' + 1)
    have f2 := hfr.free (o' + 2)
    have f3 := hfr.free (o' + 3)
    have hbz9 := (set4_other W8 b' o' y (k := w.heap.size + 2) (by omega)).trans ((hb8.block _ (by omega)).trans (unhide HBZ7))
    have hB9 := set4_below ((unhide HB7).trans (hb8.mono (by have := (unhide HB7).size; omega))) (b := b') (by omega) o' y
    obtain ⟨W9, hW9⟩ : ∃ W9, set4 W8 b' o' y = W9 := ⟨_, rfl⟩
    have hs9 : W9.heap.size = W8.heap.size := by rw [← hW9]; exact set4_size _ _ _ _
    rw [hW9] at hx x0 x1 x2 x3 hbz9 hB9
    unfold set4 at hW9
    obtain ⟨⟨z0, z1, z2, z3⟩, y0, y1, y2, y3⟩ := zbox_kept hbz9
    have hfin : HoldsS (2 * n + 2) (fun b => w.heap.size ≤ b) (set4 W9 (w.heap.size + 2) 0 x) x.val (putC ns t (code u)) := fun m hm hlm => by
      obtain ⟨t', e1, e2, e3, e4⟩ := hx m hm hlm
      refine ⟨t', by rw [e1], ?_, e4.mono (fun b (h : W5.heap.size ≤ b) => by show w.heap.size ≤ b; omega), e3⟩
      rw [set4_size, hs9]
      exact e2.fromS (fun b (h : W5.heap.size ≤ b) => set4_other _ _ _ _ (by omega)) e4
    have hbf := set4_below hB9 (b := w.heap.size + 2) (by omega) 0 x
    have HF := hide (And.intro hbf hfin)
    clear hbf hfin hx hbz9 hB9 hfr hb8 hy8 HLA HBZ7 HB7 hs9 hlo
    go_wp2_with fail
    exact bodyPost_ret (v := .tuple #[x.val, .int .i64 0]) (by simp [results, Tryz.results23, go_sem, TV.val, z0, z1, z2, z3]) rfl ⟨x, 0, rfl, (unhide HF).1, .inr ⟨unhide HNN, rfl, (unhide HF).2⟩⟩
end Go.Proofs.YtojefplapklbmaaGreatDoor

/- The error answers of term.General and term.Match. -/
namespace Go.Proofs.YtojefplapklbmaaGreatDoor
open Go.RowKit Go.Shelf Go.Maps

set_option maxRecDepth 100000 in
set_option maxHeartbeats 2000000 in
theorem general_bad {n : Nat} (t u : Tm n) (w : World) (ht : IsT w.heap.size w t) (hu : IsT w.heap.size w u) (hok : [t, u].all okT = false) :
    Calls Tryz.prog 19 #[t.tv.val, u.tv.val] w fun e W' => e = .returned (.tuple #[zeroT.val, .int .i64 2]) ∧ Below w.heap.size w W' := by
  obtain ⟨W3, hW3, hB3, hba, hbb, hbz, hs3⟩ := three_z w t.tv u.tv
  have hck := checkPair t u w W3 ht hu hB3
  rw [chkL_no hok] at hck
  have hadr : (⟨W3.heap.size, 0, none⟩ : Addr) = ⟨w.heap.size + 1 + 1 + 1, 0, none⟩ := by rw [hs3]
  rw [hadr] at hck
  clear hadr
  have a0 := hba.c0
  have a1 := hba.c1
  have a2 := hba.c2
  have a3 := hba.c3
  have b0 := hbb.c0
  have b1 := hbb.c1
  have b2 := hbb.c2
  have b3 := hbb.c3
  simp only [TV.val, zeroT] at hck ⊢
  have HB3 := hide hB3
  have HBZ := hide hbz
  clear ht hu hok hB3 hba hbb hbz
  go_enter Tryz.func19, Tryz.ntmps19
  go_wp2_with fail
  refine hck.mono ?_
  clear hck a0 a1 a2 a3 b0 b1 b2 b3
  rintro e W5 ⟨rfl, hb5⟩
  have hB5 : Below w.heap.size w W5 := (unhide HB3).trans (hb5.mono (by omega))
  have hbz5 := (hb5.block _ (by omega)).trans (unhide HBZ)
  obtain ⟨⟨z0, z1, z2, z3⟩, y0, y1, y2, y3⟩ := zbox_kept hbz5
  have hbf := set4_below hB5 (b := w.heap.size + 2) (by omega) 0 zeroT
  unfold zeroT at hbf
  have HF := hide hbf
  clear hbf hbz5 hB5 hb5
  go_wp2_with fail
  exact bodyPost_ret (v := .tuple #[.agg #[.int .i64 0, .int .i64 0, .string ⟨#[]⟩, .slice none 0 0], .int .i64 2]) (by simp [results, Tryz.results19, go_sem, z0, z1, z2, z3]) rfl ⟨rfl, unhide HF⟩

set_option maxRecDepth 100000 in
set_option maxHeartbeats 2000000 in
theorem match_bad {n : Nat} (p t : Tm n) (w : World) (hp : IsT w.heap.size w p) (ht : IsT w.heap.size w t) (hok : [p, t].all okT = false) :
    Calls Tryz.prog 28 #[p.tv.val, t.tv.val] w fun e W' => e = .returned (.tuple #[.slice none 0 0, .bool false, .int .i64 2]) ∧ Below w.heap.size w W' := by
  have hc := checkTwo p t w hp ht
  rw [chkL_no hok] at hc
  simp only [TV.val] at hc ⊢
  clear hok hp ht
  go_enter Tryz.func28, Tryz.ntmps28
  go_wp2_with fail
  refine hc.mono ?_
  clear hc
  rintro e W2 ⟨rfl, hb2, bx, bby⟩
  have HB := hide hb2
  clear hb2 bx bby
  go_wp2_with fail
  exact bodyPost_ret (v := .tuple #[.slice none 0 0, .bool false, .int .i64 2]) (by simp [results, Tryz.results28, go_sem]) rfl ⟨rfl, unhide HB⟩
end Go.Proofs.YtojefplapklbmaaGreatDoor

