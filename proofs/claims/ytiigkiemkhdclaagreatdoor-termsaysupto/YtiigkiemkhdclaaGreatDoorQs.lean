import Derived.Test.YtiigkiemkhdclaaGreatDoorPs
import Derived.Test.YtiigkiemkhdclaaGreatDoorEs
import Derived.Maps.AppendAt
/- The contracts of term.becoming and its closure: what a variable becomes by a list of binds. -/
namespace Go.Proofs.YtiigkiemkhdclaaGreatDoor
open Go.RowKit Go.Shelf

/-- The binds by their codes. -/
def cb {n : Nat} (bs : List (Int × Tm n)) : List (Int × List Nd) := bs.map fun p => (p.1, code p.2)
/-- What a variable becomes. -/
def lookC (c : List (Int × List Nd)) (N : Int) : List Nd := match c.find? (fun p => p.1 == N) with | some p => p.2 | none => [varNd N]

theorem Rises.unique {n : Nat} {bs : List (Int × Tm n)} (h : Rises bs) {i j : Nat} {p q : Int × Tm n} (hi : bs[i]? = some p) (hj : bs[j]? = some q) (e : p.1 = q.1) : i = j := by
  by_cases h1 : i < j
  · have := h i j p q hi hj h1; omega
  · by_cases h2 : j < i
    · have := h j i q p hj hi h2; omega
    · omega
theorem lookC_some {n : Nat} {bs : List (Int × Tm n)} (h : Rises bs) {i : Nat} {p : Int × Tm n} (hi : bs[i]? = some p) : lookC (cb bs) p.1 = code p.2 := by
  unfold lookC cb
  rw [List.find?_map]
  cases hf : bs.find? ((fun q : Int × List Nd => q.1 == p.1) ∘ fun p => (p.1, code p.2)) with
  | none =>
    have := List.find?_eq_none.1 hf p (List.mem_of_getElem? hi)
    simp at this
  | some q =>
    have hq := List.find?_some hf
    simp at hq
    obtain ⟨j, hj⟩ := List.mem_iff_getElem?.1 (List.mem_of_find?_eq_some hf)
    have e := h.unique hj hi hq
    subst e
    rw [hi] at hj
    cases hj
    rfl
theorem lookC_none {n : Nat} {bs : List (Int × Tm n)} {N : Int} (h : ∀ p ∈ bs, p.1 ≠ N) : lookC (cb bs) N = [varNd N] := by
  unfold lookC cb
  rw [List.find?_map]
  have : bs.find? ((fun q : Int × List Nd => q.1 == N) ∘ fun p => (p.1, code p.2)) = none := List.find?_eq_none.2 fun p hp => by simpa using h p hp
  rw [this]; rfl

set_option maxHeartbeats 400000 in
theorem becoming_any (a : Option Addr) (len cap : Nat) (w : World) : Calls Tryz.prog 61 #[.slice a len cap] w fun e W' => e = .returned (.func (.func 88) #[] #[.pointer (some ⟨w.heap.size, 0, none⟩)]) ∧ W' = w.alloc (.cells #[.slice a len cap] 32) := by
  go_enter Tryz.func61, Tryz.ntmps61
  go_wp2
  go_ret
  exact ⟨rfl, rfl⟩

/-- One new block ahead of a callee that keeps what lay. -/
theorem below_one {W W1 : World} {o : Obj} (h : Below (W.alloc o).heap.size (W.alloc o) W1) : Below W.heap.size W W1 :=
  ((Below.refl _ W).alloc (Nat.le_refl _) _).trans (h.mono (by simp))

set_option maxRecDepth 100000 in
set_option maxHeartbeats 1000000 in
theorem becoming1_any {n : Nat} (bs : List (Int × Tm n)) (a : Option Addr) (len cap B : Nat) (N : Int) (W : World) (hbox : Boxed W B 32 (.slice a len cap)) (hl : IsL W.heap.size W a len bs) (hri : Rises bs) (hok : ∀ p ∈ bs, okT p.2 = true) :
    Calls Tryz.prog 88 #[.int .i64 N, .pointer (some ⟨B, 0, none⟩)] W fun e W' => ∃ v, e = .returned v ∧ Below W.heap.size W W' ∧ HoldsT (n + 1) W.heap.size W' v (lookC (cb bs) N) := by
  have hbox1 := hbox.alloc (.cells #[.int .i64 0, .int .i64 0, .string ⟨#[]⟩, .slice none 0 0] 24)
  have cB := hbox1.cell
  have hB1 : Below W.heap.size W (W.alloc (.cells #[.int .i64 0, .int .i64 0, .string ⟨#[]⟩, .slice none 0 0] 24)) := (Below.refl _ W).alloc (Nat.le_refl _) _
  have hlt := hbox.lt
  have hnew := World.alloc_heap_new W (.cells #[.int .i64 0, .int .i64 0, .string ⟨#[]⟩, .slice none 0 0] 24)
  have hf := find_any bs a len cap N (W.alloc (.cells #[.int .i64 0, .int .i64 0, .string ⟨#[]⟩, .slice none 0 0] 24)) ((hl.below hB1).mono hB1.size) hri
  go_enter Tryz.func88, Tryz.ntmps88
  have HL := hide hl
  have HRI := hide hri
  have HOK := hide hok
  have HNEW := hide hnew
  have HBOX := hide hbox1
  clear hl hri hok hnew hbox hbox1
  go_wp2_with fail
  refine hf.mono ?_
  clear hf
  rintro e W1 ⟨pos, f, rfl, hb1, h1, h2⟩
  have H1 := hide h1
  have H2 := hide h2
  clear h1 h2 cB
  have hbz : W1.heap[W.heap.size]? = some (.cells #[.int .i64 0, .int .i64 0, .string ⟨#[]⟩, .slice none 0 0] 24 (0, 0)) := (hb1.block W.heap.size (by simp)).trans (unhide HNEW)
  have HBZ := hide hbz
  clear hbz
  have hbo : Boxed W1 B 32 (.slice a len cap) := (hb1.block B (by simp; omega)).trans (unhide HBOX)
  have cB := hbo.cell
  clear hbo
  have hb01 := below_one hb1
  cases f with
  | true =>
    obtain ⟨p, hp, hpN⟩ := (unhide H1) rfl
    have hpl : pos < len := by have := (unhide HL).1; have := (List.getElem?_eq_some_iff.1 hp).1; omega
    obtain ⟨V, u, b, off, hu, rfl, hbk, hT, c0, c1, c2, c3, c4⟩ := bind_at (unhide HL) hb01 hpl
    rw [hu] at hp
    cases hp
    simp only at hpN
    have hcp := copy_any u W1 hT ((unhide HOK) _ (List.mem_of_getElem? hu))
    have hlk := lookC_some (unhide HRI) hu
    simp only at hlk
    rw [hpN] at hlk
    have HLK := hide hlk
    simp only [TV.val] at hcp
    have hj1 : (pos : Int) < len := by omega
    clear hT hu hlk hpN c0
    go_wp2_with fail
    refine hcp.mono ?_
    clear hcp
    rintro e W2 ⟨x, rfl, hb2, hv⟩
    obtain ⟨⟨z0, z1, z2, z3⟩, y0, y1, y2, y3⟩ := zbox_kept ((hb2.block W.heap.size (by have := hb1.size; simp at this; omega)).trans (unhide HBZ))
    have hs1 : W.heap.size + 1 ≤ W1.heap.size := by have := hb1.size; simpa using this
    have hfin : HoldsT (n + 1) W.heap.size (set4 W2 W.heap.size 0 x) x.val (lookC (cb bs) N) := by rw [unhide HLK]; exact (holds_set4 hv (by omega) 0 x).mono (Nat.le_refl _) (by omega)
    have hbf : Below W.heap.size W (set4 W2 W.heap.size 0 x) := set4_below (hb01.trans (hb2.mono hb01.size)) (Nat.le_refl _) 0 x
    have HF := hide hfin
    have HB := hide hbf
    clear hfin hbf hv hb2 hb1 hb01 hB1
    dsimp only [TV.val]
    go_wp2_with fail
    exact bodyPost_ret (v := x.val) (by simp [results, Tryz.results88, go_sem, TV.val, z0, z1, z2, z3]) rfl ⟨x.val, rfl, unhide HB, unhide HF⟩
  | false =>
    have HLK := hide (lookC_none ((unhide H2) rfl))
    have hcp := variable_any N W1
    simp only [TV.val, varV] at hcp
    go_wp2_with fail
    refine hcp.mono ?_
    clear hcp
    rintro e W2 ⟨rfl, hb2⟩
    obtain ⟨⟨z0, z1, z2, z3⟩, y0, y1, y2, y3⟩ := zbox_kept ((hb2.block W.heap.size (by have := hb1.size; simp at this; omega)).trans (unhide HBZ))
    have hfin : HoldsT (n + 1) W.heap.size (set4 W2 W.heap.size 0 (varV N)) (varV N).val (lookC (cb bs) N) := by
      rw [unhide HLK]
      have hh := holds_leaf (varV N) rfl (by simp [varV, ByteArray.size]) W.heap.size (set4 W2 W.heap.size 0 (varV N))
      rw [varV_nd] at hh
      exact hh.mono (by omega) (Nat.le_refl _)
    have hbf : Below W.heap.size W (set4 W2 W.heap.size 0 (varV N)) := set4_below (hb01.trans (hb2.mono hb01.size)) (Nat.le_refl _) 0 _
    have HF := hide hfin
    have HB := hide hbf
    clear hfin hbf hb2 hb1 hb01 hB1
    go_wp2_with fail
    exact bodyPost_ret (v := (varV N).val) (by simp [results, Tryz.results88, go_sem, TV.val, varV, z0, z1, z2, z3]) rfl ⟨(varV N).val, rfl, unhide HB, unhide HF⟩

/-- A list of binds says what a variable becomes. -/
theorem becoming_becomes {n : Nat} (bs : List (Int × Tm n)) (a : Option Addr) (len cap B : Nat) (w : World) (hbox : Boxed w B 32 (.slice a len cap)) (hl : IsL w.heap.size w a len bs) (hri : Rises bs) (hok : ∀ p ∈ bs, okT p.2 = true) :
    Becomes 88 #[.pointer (some ⟨B, 0, none⟩)] (lookC (cb bs)) (n + 1) w := fun N W _ _ hb =>
  becoming1_any bs a len cap B N W ((hb.block B hbox.lt).trans hbox) ((hl.below hb).mono hb.size) hri hok
end Go.Proofs.YtiigkiemkhdclaaGreatDoor

/- The contract of hornref.Same: it answers sameT of two terms; nothing that lay is changed. -/
namespace Go.Proofs.YtiigkiemkhdclaaGreatDoor
open Go.RowKit Go.Shelf

theorem ret_bool {a b : Bool} (h : a = b) : Ending.returned (.bool a) = .returned (.bool b) := by rw [h]
theorem all2_stop {α : Type} {f : α → α → Bool} : ∀ (a b : List α) (j : Nat) (u v : α), a[j]? = some u → b[j]? = some v → f u v = false → all2 f a b = false := by
  intro a
  induction a with
  | nil => intro b j u v h; simp at h
  | cons x a ih =>
    intro b j u v hu hv hne
    cases b with
    | nil => simp at hv
    | cons y b =>
      cases j with
      | zero => simp at hu hv; subst hu; subst hv; simp [all2, hne]
      | succ j =>
        simp only [List.getElem?_cons_succ] at hu hv
        simp [all2, ih b j u v hu hv hne]
theorem all2_next {α : Type} {f : α → α → Bool} : ∀ (a b : List α) (j : Nat) (u v : α), a[j]? = some u → b[j]? = some v → all2 f (a.take j) (b.take j) = true → f u v = true → all2 f (a.take (j + 1)) (b.take (j + 1)) = true := by
  intro a
  induction a with
  | nil => intro b j u v h; simp at h
  | cons x a ih =>
    intro b j u v hu hv h hne
    cases b with
    | nil => simp at hv
    | cons y b =>
      cases j with
      | zero => simp at hu hv; subst hu; subst hv; simp [all2, hne]
      | succ j =>
        simp only [List.take_succ_cons, all2, Bool.and_eq_true] at h ⊢
        simp only [List.getElem?_cons_succ] at hu hv
        exact ⟨h.1, by simpa using ih b j u v hu hv h.2 hne⟩

set_option maxRecDepth 100000 in
set_option maxHeartbeats 1000000 in
theorem same_any : ∀ (n : Nat) (x y : Tm n) (w : World), IsT w.heap.size w x → IsT w.heap.size w y → Calls Tryz.prog 41 #[x.tv.val, y.tv.val] w fun e W' => e = .returned (.bool (sameT x y)) ∧ Below w.heap.size w W' := by
  intro n
  induction n with
  | zero => intro t; exact Empty.elim t
  | succ n ih =>
    intro x y w hx hy
    obtain ⟨⟨k, kN, s, a, len, cap⟩, kids⟩ := x
    obtain ⟨⟨k', kN', s', a', len', cap'⟩, kids'⟩ := y
    obtain ⟨hlen, hmax, hsm, hkids⟩ := hx
    obtain ⟨hlen', hmax', hsm', hkids'⟩ := hy
    simp only [Tm.tv, Tm.kids] at hlen hmax hsm hkids hlen' hmax' hsm' hkids'
    have HI := hide ih
    clear ih
    simp only [TV.val, Tm.tv, sameT, Tm.kids]
    cases hst : stop ⟨k, kN, s, a, len, cap⟩ ⟨k', kN', s', a', len', cap'⟩ with
    | false =>
      rw [Bool.false_and]
      have HS := hide hst
      clear hst hkids hkids' hlen hlen' HI
      go_enter Tryz.func41, Tryz.ntmps41
      go_wp2_with fail
      all_goals first | (go_ret; exact ⟨rfl, ((Below.refl _ w).alloc (Nat.le_refl _) _).alloc (by simp) _⟩) | skip
      exfalso
      have h := unhide HS
      clear HS
      have h1 : k = k' := by assumption
      have h2 : kN = kN' := by assumption
      have h3 : s.toList = s'.toList := by assumption
      have h4 : ((len : Int) != (len' : Int)) = false := by assumption
      simp at h4
      have h5 : len = len' := by omega
      simp [stop, h1, h2, h3, h5] at h
    | true =>
      rw [Bool.true_and]
      simp [stop] at hst
      obtain ⟨rfl, rfl, hs, hlq⟩ := hst
      have hl1 : len ≤ kids.length := by omega
      have hl2 : kids.length ≤ len := by omega
      have hl3 : len ≤ kids'.length := by omega
      have hl4 : kids'.length ≤ len := by omega
      have hl5 : (len : Int) ≤ len' := by omega
      have hl6 : ((len : Int) != (len' : Int)) = false := by simp; omega
      clear hlq hlen hlen'
      go_enter Tryz.func41, Tryz.ntmps41
      go_wp2_with fail
      obtain ⟨W1, hW1⟩ : ∃ W1, (w.alloc (.cells #[.int .i64 k, .int .i64 kN, .string s, .slice a len cap] 24)).alloc (.cells #[.int .i64 k, .int .i64 kN, .string s', .slice a' len' cap'] 24) = W1 := ⟨_, rfl⟩
      have hBB := Below.refl ((w.alloc (.cells #[.int .i64 k, .int .i64 kN, .string s, .slice a len cap] 24)).alloc (.cells #[.int .i64 k, .int .i64 kN, .string s', .slice a' len' cap'] 24)).heap.size ((w.alloc (.cells #[.int .i64 k, .int .i64 kN, .string s, .slice a len cap] 24)).alloc (.cells #[.int .i64 k, .int .i64 kN, .string s', .slice a' len' cap'] 24))
      obtain ⟨⟨hb1, hzz⟩, hcc, hcd⟩ := two_boxes hBB
      clear hBB
      rw [hW1] at hb1 hzz hcc hcd ⊢
      clear hW1
      go_loopw [5] (fun i wr => ∃ j : Nat, j ≤ len ∧ i = .int .i64 j ∧ all2 sameT (kids.take j) (kids'.take j) = true ∧ Below W1.heap.size W1 wr) (fun i _ => len - (intOf i).toNat)
      case atStart => exact ⟨0, Nat.zero_le _, rfl, by simp [all2], Below.refl _ _⟩
      case round =>
        obtain ⟨j, hj, rfl, ho, hb⟩ := hrel
        have hbw : Below w.heap.size w wr := hb1.trans (hb.mono (by omega))
        have HO := hide ho
        clear ho
        replace hcc := (hb.cell (p := ⟨w.heap.size, 3, none⟩) (by simp; omega)).trans hcc
        replace hcd := (hb.cell (p := ⟨w.heap.size + 1, 3, none⟩) (by simp; omega)).trans hcd
        by_cases hlt : j < len
        · obtain ⟨u, b, off, hu, rfl, ⟨c0, c1, c2, c3⟩, hT, hbk⟩ := kid_at hkids hbw hlt hl1
          obtain ⟨v, b', off', hv, rfl, ⟨d0, d1, d2, d3⟩, hT', hbk'⟩ := kid_at hkids' hbw hlt hl3
          have hj1 : (j : Int) < len := by omega
          have hj2 : (j : Int) < len' := by omega
          have ihu : Calls Tryz.prog 41 #[.agg #[.int .i64 u.tv.k, .int .i64 u.tv.N, .string u.tv.s, .slice u.tv.a u.tv.len u.tv.cap], .agg #[.int .i64 v.tv.k, .int .i64 v.tv.N, .string v.tv.s, .slice v.tv.a v.tv.len v.tv.cap]] wr.drew fun e W2 => e = .returned (.bool (sameT u v)) ∧ Below wr.heap.size wr W2 :=
            ((unhide HI) u v wr.drew (hT.below (Below.refl _ wr).drew) (hT'.below (Below.refl _ wr).drew)).mono fun e W2 h => ⟨h.1, (Below.refl _ wr).drew.trans h.2⟩
          have hy1 : w.heap.size < wr.heap.size := by have := hb.size; omega
          have hy2 : w.heap.size + 1 < wr.heap.size := by have := hb.size; omega
          have hy3 : b < wr.heap.size := by omega
          have hy4 : b' < wr.heap.size := by omega
          have hstop := all2_stop (f := sameT) kids kids' j u v hu hv
          have hnext := all2_next (f := sameT) kids kids' j u v hu hv (unhide HO)
          clear hkids hkids' hT hT' hu hv
          generalize sameT u v = d at *
          have HN := hide hnext
          have HS := hide hstop
          clear hnext hstop
          cases d with
          | true =>
            go_wp2_with fail
            go_region_held3 (fun w' => w'.cell? ⟨w.heap.size, 3, none⟩ = some (.slice (some ⟨b, off, none⟩) len cap) ∧ w'.cell? ⟨w.heap.size + 1, 3, none⟩ = some (.slice (some ⟨b', off', none⟩) len' cap')
              ∧ w'.cell? ⟨b, off + j * 4, none⟩ = some (.int .i64 u.tv.k) ∧ w'.cell? ⟨b, off + j * 4 + 1, none⟩ = some (.int .i64 u.tv.N) ∧ w'.cell? ⟨b, off + j * 4 + 2, none⟩ = some (.string u.tv.s) ∧ w'.cell? ⟨b, off + j * 4 + 3, none⟩ = some (.slice u.tv.a u.tv.len u.tv.cap)
              ∧ w'.cell? ⟨b', off' + j * 4, none⟩ = some (.int .i64 v.tv.k) ∧ w'.cell? ⟨b', off' + j * 4 + 1, none⟩ = some (.int .i64 v.tv.N) ∧ w'.cell? ⟨b', off' + j * 4 + 2, none⟩ = some (.string v.tv.s) ∧ w'.cell? ⟨b', off' + j * 4 + 3, none⟩ = some (.slice v.tv.a v.tv.len v.tv.cap)) (go_keep)
              (first | (go_at_call 41; refine ihu.mono ?_; clear ihu; rintro e W2 ⟨rfl, hb2⟩; have hbc := bcell hb2))
            go_wp2_with fail
            go_roundw
            case rel => exact ⟨j + 1, by omega, by go_num, (unhide HN) (by simp), hb.trans (hb2.mono hb.size)⟩
            case measure => simp [intOf]; omega
          | false =>
            go_wp2_with fail
            go_region_held3 (fun w' => w'.cell? ⟨w.heap.size, 3, none⟩ = some (.slice (some ⟨b, off, none⟩) len cap) ∧ w'.cell? ⟨w.heap.size + 1, 3, none⟩ = some (.slice (some ⟨b', off', none⟩) len' cap')
              ∧ w'.cell? ⟨b, off + j * 4, none⟩ = some (.int .i64 u.tv.k) ∧ w'.cell? ⟨b, off + j * 4 + 1, none⟩ = some (.int .i64 u.tv.N) ∧ w'.cell? ⟨b, off + j * 4 + 2, none⟩ = some (.string u.tv.s) ∧ w'.cell? ⟨b, off + j * 4 + 3, none⟩ = some (.slice u.tv.a u.tv.len u.tv.cap)
              ∧ w'.cell? ⟨b', off' + j * 4, none⟩ = some (.int .i64 v.tv.k) ∧ w'.cell? ⟨b', off' + j * 4 + 1, none⟩ = some (.int .i64 v.tv.N) ∧ w'.cell? ⟨b', off' + j * 4 + 2, none⟩ = some (.string v.tv.s) ∧ w'.cell? ⟨b', off' + j * 4 + 3, none⟩ = some (.slice v.tv.a v.tv.len v.tv.cap)) (go_keep)
              (first | (go_at_call 41; refine ihu.mono ?_; clear ihu; rintro e W2 ⟨rfl, hb2⟩; have hbc := bcell hb2))
            go_wp2_with fail
            go_ret
            exact ⟨ret_bool ((unhide HS) (by simp)).symm, hbw.trans (hb2.mono hbw.size)⟩
        · have ht : kids.take j = kids := List.take_of_length_le (by omega)
          have ht' : kids'.take j = kids' := List.take_of_length_le (by omega)
          have HT := hide ht
          have HT' := hide ht'
          clear ht ht' hkids hkids'
          go_wp2_with fail
          go_ret
          exact ⟨ret_bool (by have h := unhide HO; rw [unhide HT, unhide HT'] at h; rw [h]), hbw⟩
end Go.Proofs.YtiigkiemkhdclaaGreatDoor

/- Terms that share memory (BlkT, HoldsS), lifted to more storeys; rows of terms that a call owns; the contracts of hornref.V and hornref.Find. -/
namespace Go.Proofs.YtiigkiemkhdclaaGreatDoor
open Go.RowKit Go.Shelf

/-- One storey more. -/
def Tm.lift : {n : Nat} → Tm n → Tm (n + 1)
  | 0, t => Empty.elim t
  | _ + 1, t => (t.tv, t.kids.map Tm.lift)
/-- Every block of the term's own memory is in S. -/
def BlkT (S : Nat → Prop) : {n : Nat} → Tm n → Prop
  | 0, _ => True
  | _ + 1, t => (t.kids = [] ∨ ∃ b off, t.tv.a = some ⟨b, off, none⟩ ∧ S b) ∧ ∀ u ∈ t.kids, BlkT S u
theorem BlkT.mono {S S' : Nat → Prop} (h : ∀ b, S b → S' b) : ∀ {n : Nat} {t : Tm n}, BlkT S t → BlkT S' t := by
  intro n
  induction n with
  | zero => intro t; exact Empty.elim t
  | succ n ih =>
    intro t ht
    obtain ⟨h1, h2⟩ := ht
    refine ⟨?_, fun u hu => ih (h2 u hu)⟩
    rcases h1 with h1 | ⟨b, off, ha, hb⟩
    · exact .inl h1
    · exact .inr ⟨b, off, ha, h b hb⟩
theorem BlkT.and {S S' : Nat → Prop} : ∀ {n : Nat} {t : Tm n}, BlkT S t → BlkT S' t → BlkT (fun b => S b ∧ S' b) t := by
  intro n
  induction n with
  | zero => intro t; exact Empty.elim t
  | succ n ih =>
    intro t ht ht'
    obtain ⟨h1, h2⟩ := ht
    obtain ⟨k1, k2⟩ := ht'
    refine ⟨?_, fun u hu => ih (h2 u hu) (k2 u hu)⟩
    rcases h1 with h1 | ⟨b, off, ha, hb⟩
    · exact .inl h1
    · rcases k1 with k1 | ⟨b', off', ha', hb'⟩
      · exact .inl k1
      · rw [ha] at ha'; simp at ha'; obtain ⟨rfl, rfl⟩ := ha'
        exact .inr ⟨b, off, ha, hb, hb'⟩
theorem IsT.blk {n₀ : Nat} {W : World} : ∀ {n : Nat} {t : Tm n}, IsT n₀ W t → BlkT (· < n₀) t := by
  intro n
  induction n with
  | zero => intro t; exact Empty.elim t
  | succ n ih =>
    intro t ht
    obtain ⟨_, _, _, h4⟩ := ht
    rcases h4 with h4 | ⟨b, off, ha, hb, hk⟩
    · exact ⟨.inl h4, fun u hu => by rw [h4] at hu; cases hu⟩
    · exact ⟨.inr ⟨b, off, ha, hb⟩, fun u hu => by
        obtain ⟨j, hj⟩ := List.mem_iff_getElem?.1 hu
        exact ih (hk j u hj).2⟩
theorem NewT.blk {lo : Nat} : ∀ {n : Nat} {t : Tm n}, NewT lo t → BlkT (lo ≤ ·) t := by
  intro n
  induction n with
  | zero => intro t; exact Empty.elim t
  | succ n ih =>
    intro t ht
    exact ⟨ht.1, fun u hu => ih (ht.2 u hu)⟩
/-- What is in S lies as it lay: so does the term. -/
theorem IsT.fromS {n₀ : Nat} {S : Nat → Prop} {A B : World} (hs : ∀ b, S b → B.heap[b]? = A.heap[b]?) : ∀ {n : Nat} {t : Tm n}, IsT n₀ A t → BlkT S t → IsT n₀ B t := by
  intro n
  induction n with
  | zero => intro t; exact Empty.elim t
  | succ n ih =>
    intro t ht hn
    obtain ⟨h1, h2, h3, h4⟩ := ht
    obtain ⟨k1, k2⟩ := hn
    rcases h4 with h4 | ⟨b, off, ha, hb, hk⟩
    · exact ⟨h1, h2, h3, .inl h4⟩
    · rcases k1 with k1 | ⟨b', off', ha', hlo⟩
      · exact ⟨h1, h2, h3, .inl k1⟩
      · rw [ha] at ha'
        simp at ha'
        obtain ⟨rfl, rfl⟩ := ha'
        refine ⟨h1, h2, h3, .inr ⟨b, off, ha, hb, fun j u hu => ?_⟩⟩
        obtain ⟨hc, hT⟩ := hk j u hu
        exact ⟨hc.kept (hs b hlo), ih hT (k2 u (List.mem_of_getElem? hu))⟩

theorem lift_tv : ∀ {n : Nat} (t : Tm n), t.lift.tv = t.tv
  | 0, t => Empty.elim t
  | _ + 1, _ => rfl
theorem flatMap_same {α β : Type} {f g : α → List β} : ∀ (l : List α), (∀ u ∈ l, f u = g u) → l.flatMap f = l.flatMap g
  | [], _ => rfl
  | a :: l, h => by rw [List.flatMap_cons, List.flatMap_cons, h a (by simp), flatMap_same l (fun u hu => h u (by simp [hu]))]
theorem lift_code : ∀ {n : Nat} (t : Tm n), code t.lift = code t := by
  intro n
  induction n with
  | zero => intro t; exact Empty.elim t
  | succ n ih =>
    intro t
    obtain ⟨x, kids⟩ := t
    show code (n := n + 1 + 1) ((x, kids.map Tm.lift) : TV × List (Tm (n + 1))) = _
    rw [code_succ, code_succ, List.flatMap_map]
    congr 1
    exact flatMap_same kids (fun u _ => ih u)
theorem lift_isT {n₀ : Nat} {W : World} : ∀ {n : Nat} {t : Tm n}, IsT n₀ W t → IsT n₀ W t.lift := by
  intro n
  induction n with
  | zero => intro t; exact Empty.elim t
  | succ n ih =>
    intro t ht
    obtain ⟨x, kids⟩ := t
    obtain ⟨h1, h2, h3, h4⟩ := ht
    simp only [Tm.tv, Tm.kids] at h1 h2 h3 h4
    have hl : x.len = (kids.map Tm.lift).length := by simpa using h1
    rcases h4 with h4 | ⟨b, off, ha, hb, hk⟩
    · exact ⟨hl, h2, h3, .inl (by show kids.map Tm.lift = []; rw [h4]; rfl)⟩
    · refine ⟨hl, h2, h3, .inr ⟨b, off, ha, hb, fun j u hu => ?_⟩⟩
      have hu' : (kids.map Tm.lift)[j]? = some u := hu
      rw [List.getElem?_map] at hu'
      obtain ⟨v, hv, rfl⟩ := Option.map_eq_some_iff.1 hu'
      obtain ⟨k1, k2⟩ := hk j v hv
      exact ⟨by rw [lift_tv]; exact k1, ih k2⟩
theorem lift_blk {S : Nat → Prop} : ∀ {n : Nat} {t : Tm n}, BlkT S t → BlkT S t.lift := by
  intro n
  induction n with
  | zero => intro t; exact Empty.elim t
  | succ n ih =>
    intro t ht
    obtain ⟨x, kids⟩ := t
    obtain ⟨h1, h2⟩ := ht
    refine ⟨?_, fun u hu => ?_⟩
    · rcases h1 with h1 | h1
      · exact .inl (by show kids.map Tm.lift = []; rw [show kids = [] from h1]; rfl)
      · exact .inr h1
    · have hu' : u ∈ kids.map Tm.lift := hu
      obtain ⟨v, hv, rfl⟩ := List.mem_map.1 hu'
      exact ih (h2 v hv)

/-- The value v is a term of the code c, at every number of storeys from D on, its memory in S. -/
def HoldsS (D : Nat) (S : Nat → Prop) (W : World) (v : Value) (c : List Nd) : Prop :=
  ∀ m, D ≤ m → ∃ t : Tm m, v = t.tv.val ∧ IsT W.heap.size W t ∧ BlkT S t ∧ code t = c
theorem holdsS_of {n : Nat} {t : Tm n} {S : Nat → Prop} {W : World} (hT : IsT W.heap.size W t) (hS : BlkT S t) : HoldsS n S W t.tv.val (code t) := fun m hm => by
  obtain ⟨k, rfl⟩ : ∃ k, m = n + k := ⟨m - n, by omega⟩
  clear hm
  induction k with
  | zero => exact ⟨t, rfl, hT, hS, rfl⟩
  | succ k ih =>
    obtain ⟨t', h1, h2, h3, h4⟩ := ih
    exact ⟨t'.lift, by rw [lift_tv]; exact h1, lift_isT h2, lift_blk h3, by rw [lift_code]; exact h4⟩
theorem HoldsT.holdsS {D lo : Nat} {W : World} {v : Value} {c : List Nd} (h : HoldsT D lo W v c) : HoldsS D (lo ≤ ·) W v c := fun m hm => by
  obtain ⟨t, h1, h2, h3, h4⟩ := h m hm
  exact ⟨t, h1, h2, h3.blk, h4⟩
theorem HoldsS.mono {D D' : Nat} {S S' : Nat → Prop} {W : World} {v : Value} {c : List Nd} (h : HoldsS D S W v c) (hD : D ≤ D') (hS : ∀ b, S b → S' b) : HoldsS D' S' W v c := fun m hm => by
  obtain ⟨t, h1, h2, h3, h4⟩ := h m (by omega)
  exact ⟨t, h1, h2, h3.mono hS, h4⟩
theorem HoldsS.below {D : Nat} {S : Nat → Prop} {A B : World} {v : Value} {c : List Nd} (h : HoldsS D S A v c) (hb : Below A.heap.size A B) : HoldsS D S B v c := fun m hm => by
  obtain ⟨t, h1, h2, h3, h4⟩ := h m hm
  exact ⟨t, h1, (h2.below hb).mono hb.size, h3, h4⟩
theorem HoldsS.fromS {D : Nat} {S : Nat → Prop} {A B : World} {v : Value} {c : List Nd} (h : HoldsS D S A v c) (hs : ∀ b, S b → b < A.heap.size → B.heap[b]? = A.heap[b]?) (hsz : A.heap.size ≤ B.heap.size) : HoldsS D S B v c := fun m hm => by
  obtain ⟨t, h1, h2, h3, h4⟩ := h m hm
  exact ⟨t, h1, (h2.fromS (S := fun b => S b ∧ b < A.heap.size) (fun b hb => hs b hb.1 hb.2) (h3.and h2.blk)).mono hsz, h3, h4⟩

set_option maxHeartbeats 400000 in
theorem v_any (N : Int) (w : World) : Calls Tryz.prog 52 #[.int .i64 N] w fun e W' => e = .returned (varV N).val ∧ Below w.heap.size w W' := by
  go_enter Tryz.func52, Tryz.ntmps52
  go_wp2
  exact bodyPost_ret (v := (varV N).val) (by simp [results, Tryz.results52, go_sem, varV, TV.val]) rfl ⟨rfl, (Below.refl _ _).alloc (Nat.le_refl _) _⟩

theorem find_take {c : List (Int × List Nd)} {N : Int} {j : Nat} {p : Int × List Nd} (hj : c[j]? = some p) (h : ∀ i q, c[i]? = some q → i < j → q.1 ≠ N) (hp : p.1 = N) : lookC c N = p.2 := by
  unfold lookC
  have : c.find? (fun p => p.1 == N) = some p := by
    rw [List.find?_eq_some_iff_getElem]
    obtain ⟨hlt, rfl⟩ := List.getElem?_eq_some_iff.1 hj
    refine ⟨by simp [hp], j, hlt, rfl, fun i hi => ?_⟩
    have := h i _ (List.getElem?_eq_getElem (by omega)) hi
    simpa using this
  rw [this]
theorem find_nil {c : List (Int × List Nd)} {N : Int} (h : ∀ q ∈ c, q.1 ≠ N) : lookC c N = [varNd N] := by
  unfold lookC
  rw [List.find?_eq_none.2 (fun q hq => by simpa using h q hq)]
theorem cb_at {n : Nat} {bs : List (Int × Tm n)} {j : Nat} {p : Int × Tm n} (h : bs[j]? = some p) : (cb bs)[j]? = some (p.1, code p.2) := by
  unfold cb; rw [List.getElem?_map, h]; rfl
theorem cb_at' {n : Nat} {bs : List (Int × Tm n)} {j : Nat} {q : Int × List Nd} (h : (cb bs)[j]? = some q) : ∃ p, bs[j]? = some p ∧ q = (p.1, code p.2) := by
  unfold cb at h; rw [List.getElem?_map] at h
  obtain ⟨p, hp, rfl⟩ := Option.map_eq_some_iff.1 h
  exact ⟨p, hp, rfl⟩

/-- What Find answers. -/
def FindSays {n : Nat} (bs : List (Int × Tm n)) (N : Int) (ns : Nat) (w : World) (e : Ending) (W' : World) : Prop :=
  ∃ (x : TV) (f : Bool), e = .returned (.tuple #[x.val, .bool f]) ∧ Below w.heap.size w W' ∧ HoldsS (n + 1) (· < ns) W' x.val (lookC (cb bs) N) ∧ (f = true ↔ ∃ p ∈ bs, p.1 = N)

set_option maxRecDepth 100000 in
set_option maxHeartbeats 1000000 in
theorem rfind_any {n : Nat} (bs : List (Int × Tm n)) (a : Option Addr) (len cap : Nat) (N : Int) (ns : Nat) (w : World) (hl : IsL ns w a len bs) (hns : ns ≤ w.heap.size) :
    Calls Tryz.prog 97 #[.slice a len cap, .int .i64 N] w fun e W' => FindSays bs N ns w e W' := by
  have h1 := hl.1
  have h2 := hl.2.1
  have hl1 : len ≤ bs.length := by omega
  have hl2 : bs.length ≤ len := by omega
  clear h1
  have HL := hide hl
  clear hl
  have hB1 := (Below.refl _ w).alloc (Nat.le_refl _) (.cells #[.int .i64 0, .int .i64 0, .string ⟨#[]⟩, .slice none 0 0] 24)
  have hnew := World.alloc_heap_new w (.cells #[.int .i64 0, .int .i64 0, .string ⟨#[]⟩, .slice none 0 0] 24)
  go_enter Tryz.func97, Tryz.ntmps97
  go_wp2_with fail
  obtain ⟨W1, hW1⟩ : ∃ W1, w.alloc (.cells #[.int .i64 0, .int .i64 0, .string ⟨#[]⟩, .slice none 0 0] 24) = W1 := ⟨_, rfl⟩
  have hsz : (w.alloc (.cells #[.int .i64 0, .int .i64 0, .string ⟨#[]⟩, .slice none 0 0] 24)).heap.size = w.heap.size + 1 := by simp
  rw [hW1] at hB1 hnew hsz ⊢
  clear hW1
  obtain ⟨⟨z0, z1, z2, z3⟩, y0, y1, y2, y3⟩ := zbox_kept hnew
  have HSZ := hide hsz
  clear hsz hnew
  go_loop [6] (fun i => ∃ j : Nat, j ≤ len ∧ i = .int .i64 j ∧ ∀ i q, bs[i]? = some q → i < j → q.1 ≠ N) (fun i => len - (intOf i).toNat)
  case atStart => exact ⟨0, Nat.zero_le _, rfl, fun i q _ h => by omega⟩
  case round =>
    obtain ⟨j, hj, rfl, hs⟩ := hrel
    have HS := hide hs
    clear hs
    by_cases hlt : j < len
    · have hl' : IsL W1.heap.size W1 a len bs := ((unhide HL).below (hB1.mono hns)).mono (Nat.le_trans hns hB1.size)
      obtain ⟨V, u, b, off, hu, rfl, hbk, hT, c0, c1, c2, c3, c4⟩ := bind_at hl' (Below.refl _ _) hlt
      have hTs : IsT ns W1 u := by
        obtain ⟨_, _, h3⟩ := (unhide HL).below (hB1.mono hns)
        have hne : bs ≠ [] := by rintro rfl; simp at hu
        obtain ⟨_, _, _, _, hk⟩ := h3.resolve_left hne
        exact (hk j _ hu).2.2
      have HT := hide hTs
      have HU := hide hu
      clear hT hu hl' hTs
      have hj1 : (j : Int) < len := by omega
      by_cases hV : V = N
      · have hV' : (V == N) = true := by simp [hV]
        have HV := hide hV
        clear hV
        have hfin : HoldsS (n + 1) (· < ns) (set4 W1 w.heap.size 0 u.tv) u.tv.val (lookC (cb bs) N) := by
          rw [find_take (cb_at (unhide HU)) (fun i q hq hi => by obtain ⟨p, hp, rfl⟩ := cb_at' hq; exact (unhide HS) i p hp hi) (unhide HV)]
          have hT1 : IsT ns (set4 W1 w.heap.size 0 u.tv) u := (unhide HT).fromS (fun b hb => set4_other W1 w.heap.size 0 u.tv (by omega)) (unhide HT).blk
          exact (holdsS_of (hT1.mono (by rw [set4_size]; have := unhide HSZ; omega)) hT1.blk).mono (by omega) (fun _ h => h)
        have hbf : Below w.heap.size w (set4 W1 w.heap.size 0 u.tv) := set4_below hB1 (Nat.le_refl _) 0 u.tv
        have HF := hide hfin
        have HBF := hide hbf
        clear hfin hbf
        go_wp2_with fail
        exact bodyPost_ret (v := .tuple #[u.tv.val, .bool true]) (by simp [results, Tryz.results97, go_sem, TV.val, z0, z1, z2, z3]) rfl ⟨u.tv, true, rfl, unhide HBF, unhide HF, fun _ => ⟨_, List.mem_of_getElem? (unhide HU), unhide HV⟩, fun _ => rfl⟩
      · have hV' : (V == N) = false := by simp [hV]
        have HV := hide hV
        clear hV
        go_wp2_with fail
        go_round
        case rel => exact ⟨j + 1, by omega, by go_num, fun i q hq hi => by
          by_cases e : i = j
          · subst e; rw [unhide HU] at hq; cases hq; exact unhide HV
          · exact (unhide HS) i q hq (by omega)⟩
        case measure => simp [intOf]; omega
    · have hv := v_any N W1
      simp only [TV.val, varV] at hv
      go_wp2_with fail
      refine hv.mono ?_
      clear hv
      rintro e W2 ⟨rfl, hb2⟩
      have hbz : ∀ b, b < W1.heap.size → W2.heap[b]? = W1.heap[b]? := hb2.block
      have zz : W2.cell? ⟨w.heap.size, 0, none⟩ = some (.int .i64 0) ∧ W2.cell? ⟨w.heap.size, 1, none⟩ = some (.int .i64 0) ∧ W2.cell? ⟨w.heap.size, 2, none⟩ = some (.string ⟨#[]⟩) ∧ W2.cell? ⟨w.heap.size, 3, none⟩ = some (.slice none 0 0) := by
        have hlt : w.heap.size < W1.heap.size := by have := unhide HSZ; omega
        exact ⟨(hb2.cell (p := ⟨w.heap.size, 0, none⟩) hlt).trans z0, (hb2.cell (p := ⟨w.heap.size, 1, none⟩) hlt).trans z1, (hb2.cell (p := ⟨w.heap.size, 2, none⟩) hlt).trans z2, (hb2.cell (p := ⟨w.heap.size, 3, none⟩) hlt).trans z3⟩
      have yy : W2.frozen? ⟨w.heap.size, 0, none⟩ = false ∧ W2.frozen? ⟨w.heap.size, 1, none⟩ = false ∧ W2.frozen? ⟨w.heap.size, 2, none⟩ = false ∧ W2.frozen? ⟨w.heap.size, 3, none⟩ = false := by
        have hlt : w.heap.size < W1.heap.size := by have := unhide HSZ; omega
        exact ⟨(hb2.frozen (p := ⟨w.heap.size, 0, none⟩) hlt).trans y0, (hb2.frozen (p := ⟨w.heap.size, 1, none⟩) hlt).trans y1, (hb2.frozen (p := ⟨w.heap.size, 2, none⟩) hlt).trans y2, (hb2.frozen (p := ⟨w.heap.size, 3, none⟩) hlt).trans y3⟩
      clear z0 z1 z2 z3 y0 y1 y2 y3 hbz
      obtain ⟨z0, z1, z2, z3⟩ := zz
      obtain ⟨y0, y1, y2, y3⟩ := yy
      have hnone : ∀ p ∈ bs, p.1 ≠ N := fun p hp => by
        obtain ⟨i, hi⟩ := List.mem_iff_getElem?.1 hp
        exact (unhide HS) i p hi (by have := (List.getElem?_eq_some_iff.1 hi).1; omega)
      have hfin : HoldsS (n + 1) (· < ns) (set4 W2 w.heap.size 0 (varV N)) (varV N).val (lookC (cb bs) N) := by
        rw [find_nil (fun q hq => by obtain ⟨i, hi⟩ := List.mem_iff_getElem?.1 hq; obtain ⟨p, hp, rfl⟩ := cb_at' hi; exact hnone p (List.mem_of_getElem? hp)), ← varV_nd]
        intro m hm
        obtain ⟨m', rfl⟩ : ∃ m', m = m' + 1 := ⟨m - 1, by omega⟩
        refine ⟨((varV N, []) : TV × List (Tm m')), rfl, ⟨rfl, by simp [Tm.tv, varV], by simp [Tm.tv, varV, ByteArray.size], .inl rfl⟩, ⟨.inl rfl, fun u hu => by cases hu⟩, ?_⟩
        rw [code_succ]; rfl
      have hbf : Below w.heap.size w (set4 W2 w.heap.size 0 (varV N)) := set4_below (hB1.trans (hb2.mono hB1.size)) (Nat.le_refl _) 0 _
      have HF := hide hfin
      have HBF := hide hbf
      have HN := hide hnone
      clear hfin hbf hnone hb2
      go_wp2_with fail
      exact bodyPost_ret (v := .tuple #[(varV N).val, .bool false]) (by simp [results, Tryz.results97, go_sem, TV.val, varV, z0, z1, z2, z3]) rfl ⟨varV N, false, rfl, unhide HBF, unhide HF, (fun h => by cases h), fun ⟨p, hp, e⟩ => ((unhide HN) p hp e).elim⟩
end Go.Proofs.YtiigkiemkhdclaaGreatDoor

