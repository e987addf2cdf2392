import Derived.Test.YtcdgmjpgmiehcaaSpds
import Derived.Test.YtcdgmjpgmiehcaaGmHs
/- Terms of whole rows may be spoilt, whatever stands at a row without places: the contract of hornkeep.spoilTerm once more. -/
namespace Go.Proofs.Ytcdgmjpgmiehcaa
open Go.RowKit Go.Shelf

/-- A term that may be spoilt: no row is longer than fifty, each is a whole block from lo to hi. -/
def SpT (lo hi : Nat) (W : World) : {n : Nat} → Tm n → Prop
  | 0, _ => True
  | _ + 1, t => (t.tv.len ≤ 50 ∧ ((t.kids = [] ∧ t.tv.len = 0 ∧ t.tv.cap = 0) ∨ ∃ b arr, (lo ≤ b ∧ b < hi) ∧ t.tv.a = some ⟨b, 0, none⟩ ∧ t.tv.cap = t.tv.len ∧ W.heap[b]? = some (Obj.cells arr 24 (0, 0)) ∧ arr.size = t.tv.len * 4)) ∧ ∀ u ∈ t.kids, SpT lo hi W u
theorem SpT.kept {lo hi : Nat} {A B : World} (hs : ∀ k, lo ≤ k → k < hi → B.heap[k]? = A.heap[k]?) : ∀ {n : Nat} {t : Tm n}, SpT lo hi A t → SpT lo hi B t := by
  intro n
  induction n with
  | zero => intro t; exact Empty.elim t
  | succ n ih =>
    intro t h
    obtain ⟨⟨h1, h2⟩, h3⟩ := h
    refine ⟨⟨h1, ?_⟩, fun u hu => ih (h3 u hu)⟩
    rcases h2 with h2 | ⟨b, arr, hb, ha, hc, hk, hz⟩
    · exact .inl h2
    · exact .inr ⟨b, arr, hb, ha, hc, (hs b hb.1 hb.2).trans hk, hz⟩
theorem SpT.low {lo lo' hi : Nat} (hl : lo' ≤ lo) {A : World} : ∀ {n : Nat} {t : Tm n}, SpT lo hi A t → SpT lo' hi A t := by
  intro n
  induction n with
  | zero => intro t; exact Empty.elim t
  | succ n ih =>
    intro t h
    obtain ⟨⟨h1, h2⟩, h3⟩ := h
    refine ⟨⟨h1, ?_⟩, fun u hu => ih (h3 u hu)⟩
    rcases h2 with h2 | ⟨b, arr, hb, ha, hc, hk, hz⟩
    · exact .inl h2
    · exact .inr ⟨b, arr, ⟨by omega, hb.2⟩, ha, hc, hk, hz⟩
/-- What is answered in whole rows may be spoilt. -/
theorem spT_of {lo : Nat} {W : World} : ∀ {n : Nat} {t : Tm n}, IsT W.heap.size W t → BlkT (lo ≤ ·) t → Rows W t → (∀ x ∈ code t, x.2.2.2 ≤ 50) → SpT lo W.heap.size W t := by
  intro n
  induction n with
  | zero => intro t; exact Empty.elim t
  | succ n ih =>
    intro t hT hb hr h50
    obtain ⟨x, kids⟩ := t
    rw [code_succ] at h50
    obtain ⟨h1, h2, h3, h4⟩ := hT
    obtain ⟨b1, b2⟩ := hb
    obtain ⟨r1, r2⟩ := hr
    have hl50 : x.len ≤ 50 := h50 x.nd (by simp)
    have hk : ∀ u ∈ kids, IsT W.heap.size W u := fun u hu => by
      obtain ⟨j, hj⟩ := List.mem_iff_getElem?.1 hu
      rcases h4 with h4 | ⟨b, off, _, _, hkk⟩
      · rw [show kids = [] from h4] at hu; cases hu
      · exact (hkk j u hj).2
    refine ⟨⟨hl50, ?_⟩, fun u hu => ih (hk u hu) (b2 u hu) (r2 u hu) fun z hz => h50 z (by simp only [List.mem_cons]; exact .inr (List.mem_flatMap.2 ⟨u, hu, hz⟩))⟩
    by_cases hne : kids = []
    · refine .inl ⟨hne, ?_, ?_⟩
      · exact h1.trans (by rw [show Tm.kids (n := n) ((x, kids) : TV × List (Tm n)) = [] from hne]; rfl)
      · rcases r1 with r1 | ⟨_, _, _, _, _, hc, hl⟩
        · exact r1.2
        · exact hc.trans (hl.trans (by rw [show Tm.kids (n := n) ((x, kids) : TV × List (Tm n)) = [] from hne]; rfl))
    · rcases r1 with r1 | ⟨b, arr, ha, hB, hz, hc, _⟩
      · exact absurd r1.1 hne
      · rcases b1 with b1 | ⟨b', off, ha', hlo⟩
        · exact absurd b1 hne
        · rw [ha] at ha'
          simp at ha'
          exact .inr ⟨b, arr, ⟨ha'.1 ▸ hlo, (Array.getElem?_eq_some_iff.1 hB).1⟩, ha, hc, hB, hz⟩
/-- What is spoilt stays a thing that can be spoilt. -/
theorem SpT.spoilt {lo hi : Nat} {A B : World} (h : Spoils (fun b => lo ≤ b ∧ b < hi) A B) : ∀ {n : Nat} {t : Tm n}, SpT lo hi A t → IsT A.heap.size A t → ∃ t' : Tm n, t'.tv = t.tv ∧ SpT lo hi B t' ∧ IsT B.heap.size B t' := by
  intro n
  induction n with
  | zero => intro t; exact Empty.elim t
  | succ n ih =>
    intro t hw hT
    obtain ⟨⟨w0, w1⟩, w2⟩ := hw
    obtain ⟨h1, h2, h3, h4⟩ := hT
    rcases w1 with ⟨e1, e3, e4⟩ | ⟨b, arr, hlo, ha, hc, hb, hz⟩
    · exact ⟨((t.tv, []) : TV × List (Tm n)), rfl, ⟨⟨w0, .inl ⟨rfl, e3, e4⟩⟩, fun u hu => by cases hu⟩, ⟨e3, h2, h3, .inl rfl⟩⟩
    · have hrow : Row4 A b t.tv.len := ⟨arr, hb, hz⟩
      have hkids : t.kids = [] ∨ ∀ j u, t.kids[j]? = some u → cellsAt A b (j * 4) u.tv ∧ IsT A.heap.size A u := by
        rcases h4 with h4 | ⟨b', off', ha', _, hk⟩
        · exact .inl h4
        · rw [ha] at ha'
          simp at ha'
          obtain ⟨rfl, rfl⟩ := ha'
          exact .inr fun j u hu => by have := hk j u hu; rw [Nat.zero_add] at this; exact this
      have hlt := Nat.lt_of_lt_of_le hrow.lt h.size
      rcases h.mark b t.tv.len hlo hrow with hm | hm
      · have hq : ∀ i, i < t.kids.length → ∃ u' : Tm n, (∀ u, t.kids[i]? = some u → u'.tv = u.tv) ∧ SpT lo hi B u' ∧ IsT B.heap.size B u' := fun i hi => by
          obtain ⟨u, hu⟩ : ∃ u, t.kids[i]? = some u := ⟨t.kids[i], List.getElem?_eq_getElem hi⟩
          rcases hkids with hk | hk
          · rw [hk] at hi; simp at hi
          · obtain ⟨u', k1, k2, k3⟩ := ih (w2 u (List.mem_of_getElem? hu)) (hk i u hu).2
            exact ⟨u', fun v hv => by rw [hu] at hv; cases hv; exact k1, k2, k3⟩
        obtain ⟨ks, hkl, hks⟩ := list_of hq
        refine ⟨((t.tv, ks) : TV × List (Tm n)), rfl, ⟨⟨w0, .inr ⟨b, arr, hlo, ha, hc, hm.trans hb, hz⟩⟩, fun u hu => ?_⟩, ⟨h1.trans hkl.symm, h2, h3, .inr ⟨b, 0, ha, hlt, fun j u hu => ?_⟩⟩⟩
        · obtain ⟨j, hj⟩ := List.mem_iff_getElem?.1 hu
          exact (hks j u hj).2.1
        · have hu0 : ks[j]? = some u := hu
          have hj : j < t.kids.length := by have := (List.getElem?_eq_some_iff.1 hu0).1; omega
          obtain ⟨v, hv⟩ : ∃ v, t.kids[j]? = some v := ⟨t.kids[j], List.getElem?_eq_getElem hj⟩
          obtain ⟨k1, k2, k3⟩ := hks j u hu
          rcases hkids with hk | hk
          · rw [hk] at hj; simp at hj
          · rw [Nat.zero_add, k1 v hv]
            exact ⟨((hk j v hv).1).kept hm, k3⟩
      · cases n with
        | zero =>
          have he : t.kids = [] := by
            cases hk : t.kids with
            | nil => rfl
            | cons u r => exact Empty.elim u
          have hl0 : t.tv.len = 0 := by rw [h1, he]; rfl
          exact ⟨((t.tv, []) : TV × List (Tm 0)), rfl, ⟨⟨w0, .inl ⟨rfl, hl0, hc.trans hl0⟩⟩, fun u hu => by cases hu⟩, ⟨hl0, h2, h3, .inl rfl⟩⟩
        | succ n =>
          obtain ⟨arr', r1, r2⟩ := hm.row
          refine ⟨((t.tv, List.replicate t.tv.len (markT n)) : TV × List (Tm (n + 1))), rfl, ⟨⟨w0, .inr ⟨b, arr', hlo, ha, hc, r1, r2⟩⟩, fun u hu => ?_⟩, ⟨by simp [Tm.kids, Tm.tv], h2, h3, .inr ⟨b, 0, ha, hlt, fun j u hu => ?_⟩⟩⟩
          · have := List.eq_of_mem_replicate hu
            subst this
            exact ⟨⟨by simp [markT, Tm.tv, markV], .inl ⟨rfl, rfl, rfl⟩⟩, fun u hu => by cases hu⟩
          · have hu' : (List.replicate t.tv.len (markT n))[j]? = some u := hu
            rw [List.getElem?_replicate] at hu'
            split at hu'
            · rename_i hj
              cases hu'
              rw [Nat.zero_add]
              exact ⟨hm.at4 j hj, rfl, ⟨by simp [markT, Tm.tv, markV], by simp [markT, Tm.tv, markV], by have := h2.2.2; omega⟩, (by show (markV).s.size ≤ _; decide), .inl rfl⟩
            · cases hu'

set_option maxRecDepth 100000 in
set_option maxHeartbeats 1000000 in
theorem spoiltT_none (ad : Addr) (w : World) :
    Calls Try.prog 28 #[.slice (some ad) 0 0, .agg #[.int .i64 9, .int .i64 (-77), .string ⟨#[115, 112, 111, 105, 108, 116]⟩, .slice none 0 0]] w fun e W' => e = .returned (.tuple #[]) ∧ Below w.heap.size w W' := by
  obtain ⟨i0, hi, hz0, hz1, hz2⟩ := info_parts Try.info_term
  have hB1 := (Below.refl _ w).alloc (Nat.le_refl _) (.cells #[.int .i64 9, .int .i64 (-77), .string ⟨#[115, 112, 111, 105, 108, 116]⟩, .slice none 0 0] 24)
  have HB1 := hide hB1
  have HI := hide hi
  have HZ0 := hide hz0
  have HZ1 := hide hz1
  have HZ2 := hide hz2
  clear hB1 hi hz0 hz1 hz2
  go_enter Try.func28, Try.ntmps28
  go_wp2_with fail
  go_loopw [12] (fun i wr => i = .int .i64 0 ∧ wr = w.alloc (.cells #[.int .i64 9, .int .i64 (-77), .string ⟨#[115, 112, 111, 105, 108, 116]⟩, .slice none 0 0] 24)) (fun i _ => 0)
  case atStart => exact ⟨rfl, rfl⟩
  case round =>
    obtain ⟨rfl, hwr⟩ := hrel
    have c0 : wr.cell? ⟨w.heap.size, 0, none⟩ = some (.int .i64 9) := by rw [hwr]; simp
    have c1 : wr.cell? ⟨w.heap.size, 1, none⟩ = some (.int .i64 (-77)) := by rw [hwr]; simp
    have c2 : wr.cell? ⟨w.heap.size, 2, none⟩ = some (.string ⟨#[115, 112, 111, 105, 108, 116]⟩) := by rw [hwr]; simp
    have c3 : wr.cell? ⟨w.heap.size, 3, none⟩ = some (.slice none 0 0) := by rw [hwr]; simp
    have hb0 : Below w.heap.size w wr := by rw [hwr]; exact unhide HB1
    clear hwr HB1
    have hbA : Below wr.heap.size wr (wr.alloc (.cells #[.int .i64 9, .int .i64 (-77), .string ⟨#[115, 112, 111, 105, 108, 116]⟩, .slice none 0 0, .int .i64 9, .int .i64 (-77), .string ⟨#[115, 112, 111, 105, 108, 116]⟩, .slice none 0 0, .int .i64 9, .int .i64 (-77), .string ⟨#[115, 112, 111, 105, 108, 116]⟩, .slice none 0 0] 24)) := (Below.refl _ wr).alloc (Nat.le_refl _) _
    have hnew := m12_new wr
    generalize hWA : wr.alloc (.cells #[.int .i64 9, .int .i64 (-77), .string ⟨#[115, 112, 111, 105, 108, 116]⟩, .slice none 0 0, .int .i64 9, .int .i64 (-77), .string ⟨#[115, 112, 111, 105, 108, 116]⟩, .slice none 0 0, .int .i64 9, .int .i64 (-77), .string ⟨#[115, 112, 111, 105, 108, 116]⟩, .slice none 0 0] 24) = WA at hbA hnew
    have hrun := run_append_grow (P := Try.prog) WA 22 22 24 i0 _ Try.underlying22 (unhide HI) (unhide HZ0) ad 0 0 [] (by simp) (fun j v h => by simp at h) ⟨wr.heap.size, 0, none⟩ 3 3 m12 (by rw [unhide HZ1]; rfl) hnew (by omega) (by omega) (by rw [unhide HZ2, show Builtin.nextslicecap (0 + 3) 0 = 3 by decide]; omega)
    have hfin := ((hb0.trans (hbA.mono hb0.size)).drew.alloc (show w.heap.size ≤ WA.drew.heap.size from Nat.le_trans hb0.size hbA.size) (.cells (([] : List Value).toArray ++ m12.toArray ++ Builtin.zeroCells (Value.agg #[.int .i64 0, .int .i64 0, .string ⟨#[]⟩, .slice none 0 0]).cells (grownCap WA (0 + 3) 0 24 - (0 + 3))) 24))
    have HR := hide hrun
    have HF := hide hfin
    have HWA := hide hWA
    clear hrun hfin hWA hbA hnew
    go_wp2_with (at_builtin; go_must (rw [unhide HWA]; refine wpList_app_run _ rfl _ _ 22 22 rfl (unhide HR) ?_))
    exact bodyPost_end (v := .tuple #[]) (by simp [results, Try.results28, go_sem]) rfl ⟨rfl, unhide HF⟩

/-- A term that may be spoilt, of the cells x. -/
def CanP (lo hi : Nat) {n : Nat} (x : TV) (t : Tm n) (W : World) : Prop := t.tv = x ∧ SpT lo hi W t ∧ IsT W.heap.size W t
set_option maxRecDepth 100000 in
set_option maxHeartbeats 1000000 in
theorem spoilTerm_sp (lo hi : Nat) : ∀ (n : Nat) (t : Tm n) (W : World), lo ≤ hi → hi ≤ W.heap.size → SpT lo hi W t → IsT W.heap.size W t →
    Calls Try.prog 17 #[t.tv.val] W fun e W' => e = .returned (.tuple #[]) ∧ Spoils (fun b => lo ≤ b ∧ b < hi) W W' := by
  intro n
  induction n with
  | zero => intro t; exact Empty.elim t
  | succ n ih =>
    intro t W hlh hhi hw hT
    obtain ⟨⟨k, N, s, a, len, cap⟩, kids⟩ := t
    have h50 : len ≤ 50 := hw.1.1
    have hB1 := (Below.refl _ W).alloc (Nat.le_refl _) (.cells #[.int .i64 k, .int .i64 N, .string s, .slice a len cap] 24)
    have hbox := BoxT.new W ⟨k, N, s, a, len, cap⟩
    have hs0 : Spoils (fun b => lo ≤ b ∧ b < hi) W (W.alloc (.cells #[.int .i64 k, .int .i64 N, .string s, .slice a len cap] 24)) := Spoils.of_below hB1
    obtain ⟨t0, ht0, hw0, hT0⟩ := SpT.spoilt hs0 hw hT
    have HB := hide hbox
    have HS := hide hs0
    have H0 := hide (show CanP lo hi ⟨k, N, s, a, len, cap⟩ t0 (W.alloc (.cells #[.int .i64 k, .int .i64 N, .string s, .slice a len cap] 24)) from ⟨ht0, hw0, hT0⟩)
    have HI := hide ih
    clear hw hT hB1 hbox hs0 ht0 hw0 hT0 ih
    simp only [TV.val, Tm.tv]
    go_enter Try.func17, Try.ntmps17
    go_wp2_with fail
    go_loopw [6] (fun i wr => ∃ (j : Nat) (t' : Tm (n + 1)), j ≤ len ∧ i = .int .i64 j ∧ Spoils (fun b => lo ≤ b ∧ b < hi) W wr ∧ BoxT wr W.heap.size ⟨k, N, s, a, len, cap⟩ ∧ CanP lo hi ⟨k, N, s, a, len, cap⟩ t' wr) (fun i _ => len - (intOf i).toNat)
    case atStart => exact ⟨0, t0, Nat.zero_le _, rfl, unhide HS, unhide HB, unhide H0⟩
    case round =>
      obtain ⟨j, t', hj, rfl, hsp, hbx, hcan⟩ := hrel
      have x3 := hbx.c3
      simp only at x3
      have hsz := hsp.size
      by_cases hlt : j < len
      · obtain ⟨ht', hw', hT'⟩ := hcan
        obtain ⟨tv', kids'⟩ := t'
        have hvv : tv' = ⟨k, N, s, a, len, cap⟩ := ht'
        subst hvv
        have hkl : len = kids'.length := hT'.1
        obtain ⟨u, hu⟩ : ∃ u, kids'[j]? = some u := ⟨kids'[j]'(by omega), List.getElem?_eq_getElem (by omega)⟩
        have hne : kids' ≠ [] := by rintro rfl; simp at hu
        obtain ⟨b, off, ha, hbk, hk⟩ := hT'.2.2.2.resolve_left hne
        have ha2 : a = some ⟨b, off, none⟩ := ha
        subst ha2
        obtain ⟨⟨c0, c1, c2, c3⟩, hTu⟩ := hk j u hu
        have hcall := (unhide HI) u wr hlh (by omega) (hw'.2 u (List.mem_of_getElem? hu)) hTu
        simp only [TV.val] at hcall
        have hnext : ∀ W2, Spoils (fun b => lo ≤ b ∧ b < hi) wr W2 → Spoils (fun b => lo ≤ b ∧ b < hi) W W2 ∧ BoxT W2 W.heap.size ⟨k, N, s, some ⟨b, off, none⟩, len, cap⟩ ∧ ∃ t2 : Tm (n + 1), CanP lo hi ⟨k, N, s, some ⟨b, off, none⟩, len, cap⟩ t2 W2 := fun W2 h2 => by
          obtain ⟨t2, e1, e2, e3⟩ := SpT.spoilt h2 hw' hT'
          exact ⟨hsp.trans h2, (h2.other _ hbx.lt (fun h => by omega)).trans hbx, t2, e1, e2, e3⟩
        have HN := hide hnext
        have hj1 : (j : Int) < len := by omega
        clear hnext hw' hT' hsp hbx ht' hkl hu hne ha hk hTu
        go_wp2_with (go_at_call 17; refine hcall.mono ?_; clear hcall; rintro e W2 ⟨rfl, h2⟩)
        obtain ⟨n1, n2, t2, n3⟩ := (unhide HN) W2 h2
        go_roundw
        case rel => exact ⟨j + 1, t2, by omega, by go_num, n1, n2, n3⟩
        case measure => simp [intOf]; omega
      · have hj1 : ¬ (j : Int) < len := by omega
        have hend : ∀ W5, Below wr.heap.size wr W5 → Calls Try.prog 28 #[.slice a len cap, .agg #[.int .i64 9, .int .i64 (-77), .string ⟨#[115, 112, 111, 105, 108, 116]⟩, .slice none 0 0]] W5 fun e W' => e = .returned (.tuple #[]) ∧ Spoils (fun b => lo ≤ b ∧ b < hi) W W' ∧ W'.cell? ⟨W.heap.size, 3, none⟩ = some (.slice a len cap) := fun W5 h5 => by
          obtain ⟨ht', hw', hT'⟩ := hcan
          obtain ⟨tv', kids'⟩ := t'
          have hvv : tv' = ⟨k, N, s, a, len, cap⟩ := ht'
          subst hvv
          have h05 : Spoils (fun b => lo ≤ b ∧ b < hi) W W5 := hsp.trans (Spoils.of_below h5)
          have hbx5 : BoxT W5 W.heap.size ⟨k, N, s, a, len, cap⟩ := (h5.block _ hbx.lt).trans hbx
          rcases hw'.1.2 with ⟨_, e3, e4⟩ | ⟨b, arr, hlo, ha, hc, hb, hz⟩
          · have e3' : len = 0 := e3
            have e4' : cap = 0 := e4
            subst e3' e4'
            have hnil : Calls Try.prog 28 #[.slice a 0 0, .agg #[.int .i64 9, .int .i64 (-77), .string ⟨#[115, 112, 111, 105, 108, 116]⟩, .slice none 0 0]] W5 fun e W' => e = .returned (.tuple #[]) ∧ Below W5.heap.size W5 W' := by
              cases a with
              | none => exact spoiltT_nil W5
              | some ad => exact spoiltT_none ad W5
            exact hnil.mono fun e W' h => ⟨h.1, h05.trans (Spoils.of_below h.2), BoxT.c3 (W := W') (B := W.heap.size) ((h.2.block _ hbx5.lt).trans hbx5)⟩
          · have ha' : a = some ⟨b, 0, none⟩ := ha
            have hc' : cap = len := hc
            subst ha' hc'
            have hrow5 : Row4 W5 b cap := Row4.kept ⟨arr, hb, hz⟩ (h5.block b (Array.getElem?_eq_some_iff.1 hb).1)
            exact (spoiltT_row b cap cap W5 hrow5 (Nat.le_refl _) (by omega)).mono fun e W' h => ⟨h.1, h05.trans (h.2.spoils hrow5 hlo), BoxT.c3 (W := W') (B := W.heap.size) ((h.2.other _ hbx5.lt (by have := hlo.2; omega)).trans hbx5)⟩
        have HE := hide hend
        have hlt5 := hbx.lt
        clear hend hcan hbx hsp
        go_wp2_with fail
        go_region_held3 (fun w' => w'.cell? ⟨W.heap.size, 3, none⟩ = some (.slice a len cap)) (go_keep) (first | (go_at_call 16; refine (markTerm_any _).mono ?_; rintro e W4 ⟨rfl, hW4⟩; have hb4 : Below wr.heap.size wr W4 := (by rw [hW4]; exact (Below.refl _ wr).drew.alloc (Nat.le_refl _) _); have x4 := (hb4.cell (p := ⟨W.heap.size, 3, none⟩) hlt5).trans x3; clear hW4; simp only [markV, TV.val]) | (go_at_call 28; refine ((unhide HE) _ hb4).mono ?_; rintro e W6 ⟨rfl, h6, x6⟩))
        exact bodyPost_end (v := .tuple #[]) (by simp [results, Try.results17, go_sem]) rfl ⟨rfl, h6⟩
end Go.Proofs.Ytcdgmjpgmiehcaa

