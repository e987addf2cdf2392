import Derived.Test.YtdjlekcapfeniaaBbFs
/- base.copyOf. -/
namespace Go.Proofs.Ytdjlekcapfeniaa
open Go.RowKit Go.Shelf

/-- The first j of the Args stand written in block B, their memory behind it. -/
def WrittenS (D B j : Nat) (W : World) (c : List Nd) : Prop :=
  ∀ M, D ≤ M → ∃ ks : List (Tm M), ks.length = j ∧ (∀ i u, ks[i]? = some u → cellsAt W B (i * 4) u.tv ∧ IsT W.heap.size W u ∧ BlkT (B + 1 ≤ ·) u) ∧ ks.flatMap code = c
theorem WrittenS.zero (D B : Nat) (W : World) : WrittenS D B 0 W [] := fun M _ => ⟨[], rfl, fun i u h => by simp at h, rfl⟩
theorem WrittenS.next {D B j lo : Nat} {W W5 : World} {c c' : List Nd} {len : Nat} {x : TV} (h : WrittenS D B j W c) (hj : j < len) (hr : Row4 W5 B len) (hb : Below W.heap.size W W5) (hB : B < W.heap.size) (hv : HoldsS D (lo ≤ ·) W5 x.val c') (hlo : W.heap.size ≤ lo) :
    WrittenS D B (j + 1) (set4 W5 B (j * 4) x) (c ++ c') := fun M hM => by
  obtain ⟨ks, hl, hk, hc⟩ := h M hM
  obtain ⟨u, hu, hT, hN0, hcu⟩ := hv M hM
  have hN : BlkT (B + 1 ≤ ·) u := hN0.mono fun b hb => by have : lo ≤ b := hb; show B + 1 ≤ b; omega
  obtain rfl := tv_inj hu
  have far : ∀ {t : Tm M}, IsT W5.heap.size W5 t → BlkT (B + 1 ≤ ·) t → IsT (set4 W5 B (j * 4) u.tv).heap.size (set4 W5 B (j * 4) u.tv) t := fun hT hN => by
    rw [set4_size]
    exact hT.fromS (S := (B + 1 ≤ ·)) (fun b hb => set4_other W5 B (j * 4) u.tv (by have : B + 1 ≤ b := hb; omega)) hN
  refine ⟨ks ++ [u], by simp [hl], fun i z hz => ?_, by simp [hc, hcu]⟩
  by_cases hi : i < j
  · rw [List.getElem?_append_left (by omega)] at hz
    obtain ⟨k1, k2, k3⟩ := hk i z hz
    have k1' := k1.kept (hb.block B hB)
    refine ⟨?_, far ((k2.below hb).mono hb.size) k3, k3⟩
    exact ⟨(set4_far W5 B (j * 4) u.tv (by omega)).trans k1'.1, (set4_far W5 B (j * 4) u.tv (by omega)).trans k1'.2.1, (set4_far W5 B (j * 4) u.tv (by omega)).trans k1'.2.2.1, (set4_far W5 B (j * 4) u.tv (by omega)).trans k1'.2.2.2⟩
  · rw [List.getElem?_append_right (by omega)] at hz
    have hi2 : i - ks.length = 0 := by
      by_cases e : i - ks.length = 0
      · exact e
      · rw [List.getElem?_eq_none (by simp; omega)] at hz; cases hz
    rw [hi2] at hz
    simp at hz
    subst hz
    obtain rfl : i = j := by omega
    refine ⟨?_, far hT hN, hN⟩
    have g : ∀ q, q < len * 4 → (W5.cell? ⟨B, q, none⟩).isSome = true := fun q hq => by obtain ⟨⟨v, hv⟩, _⟩ := hr.cell hq; rw [hv]; rfl
    exact set4_cells W5 B (i * 4) u.tv (g _ (by omega)) (g _ (by omega)) (g _ (by omega)) (g _ (by omega))
theorem WrittenS.end {D B len : Nat} {W : World} {c : List Nd} (h : WrittenS D B len W c) {V : World} (hV : ∀ k, B ≤ k → V.heap[k]? = W.heap[k]?) (hsz : W.heap.size ≤ V.heap.size) (hB : B < V.heap.size) (k N : Int) (s : ByteArray) (hs : s.size ≤ 9223372036854775807) (hl : len ≤ 9223372036854775807) :
    HoldsS (D + 1) (B ≤ ·) V (⟨k, N, s, some ⟨B, 0, none⟩, len, len⟩ : TV).val ((k, N, s.toList, len) :: c) := fun m hm => by
  obtain ⟨M, rfl⟩ : ∃ M, m = M + 1 := ⟨m - 1, by omega⟩
  obtain ⟨ks, hkl, hks, hkc⟩ := h M (by omega)
  refine ⟨((⟨k, N, s, some ⟨B, 0, none⟩, len, len⟩, ks) : TV × List (Tm M)), rfl, ⟨hkl.symm, hl, hs, .inr ⟨B, 0, rfl, hB, fun j u hu => ?_⟩⟩, ⟨.inr ⟨B, 0, rfl, Nat.le_refl _⟩, fun u hu => ?_⟩, ?_⟩
  · obtain ⟨k1, k2, k3⟩ := hks j u hu
    exact ⟨by rw [Nat.zero_add]; exact k1.kept (hV B (Nat.le_refl _)), (k2.fromS (S := (B + 1 ≤ ·)) (fun b hb => hV b (by have : B + 1 ≤ b := hb; omega)) k3).mono hsz⟩
  · obtain ⟨j, hj⟩ := List.mem_iff_getElem?.1 hu
    exact (hks j u hj).2.2.mono fun b hb => by have : B + 1 ≤ b := hb; show B ≤ b; omega
  · rw [code_succ, hkc]; rfl
set_option maxRecDepth 100000 in
set_option maxHeartbeats 1000000 in
theorem copyOf_leaf (k N : Int) (s : ByteArray) (a : Option Addr) (cap : Nat) (W : World) :
    Calls Try.prog 44 #[.agg #[.int .i64 k, .int .i64 N, .string s, .slice a 0 cap]] W fun e W' => e = .returned (⟨k, N, s, a, 0, cap⟩ : TV).val ∧ Below W.heap.size W W' := by
  go_enter Try.func44, Try.ntmps44
  go_wp2_with fail
  exact bodyPost_ret (v := (⟨k, N, s, a, 0, cap⟩ : TV).val) (by simp [results, Try.results44, go_sem, TV.val]) rfl ⟨rfl, ((Below.refl _ W).alloc (Nat.le_refl _) _).alloc (by simp) _⟩
set_option maxRecDepth 100000 in
set_option maxHeartbeats 2000000 in
theorem copyOf_comp {n : Nat} (w : World)
    (ih : ∀ (u : Tm n) (W : World), Below w.heap.size w W → IsT W.heap.size W u → okT u = true → Calls Try.prog 44 #[u.tv.val] W fun e W' => ∃ x : TV, e = .returned x.val ∧ Below W.heap.size W W' ∧ HoldsS n (W.heap.size ≤ ·) W' x.val (code u))
    (k N : Int) (s : ByteArray) (a : Option Addr) (len cap : Nat) (kids : List (Tm n)) (W : World) (hbW : Below w.heap.size w W) (hs : s.size ≤ 9223372036854775807) (hl0 : 1 ≤ len) (hl50 : len ≤ 50) (hlen : len = kids.length)
    (hkids : kids = [] ∨ ∃ b off, a = some ⟨b, off, none⟩ ∧ b < W.heap.size ∧ ∀ j u, kids[j]? = some u → cellsAt W b (off + j * 4) u.tv ∧ IsT W.heap.size W u) (hok : ∀ u ∈ kids, okT u = true) :
    Calls Try.prog 44 #[.agg #[.int .i64 k, .int .i64 N, .string s, .slice a len cap]] W fun e W' => ∃ x : TV, e = .returned x.val ∧ Below W.heap.size W W' ∧ HoldsS (n + 1) (W.heap.size ≤ ·) W' x.val ((k, N, s.toList, len) :: kids.flatMap code) := by
  have hl1 : len ≤ kids.length := by omega
  have hl2 : kids.length ≤ len := by omega
  clear hlen
  have hl00 : ((len : Int) == 0) = false := by simp; omega
  have HI := hide ih
  have HO := hide hok
  clear ih hok
  have hmk := make_terms len hl50
  go_enter Try.func44, Try.ntmps44
  go_wp2_with fail
  obtain ⟨W3, hW3, hb3, hs3, bT, hz, hr⟩ := made_world W ⟨k, N, s, a, len, cap⟩ len
  simp only at hW3
  rw [hW3]
  clear hW3 hmk hl00
  have HZ := hide hz
  have HT := hide bT
  have HR := hide hr
  have HS := hide hs3
  clear hz bT hr hs3
  go_loopw [18] (fun i wr => ∃ j : Nat, j ≤ len ∧ i = .int .i64 j ∧ Below (W.heap.size + 2) W3 wr ∧ Row4 wr (W.heap.size + 2) len ∧ WrittenS n (W.heap.size + 2) j wr ((kids.take j).flatMap code)) (fun i _ => len - (intOf i).toNat)
  case atStart => exact ⟨0, Nat.zero_le _, rfl, Below.refl _ _, unhide HR, WrittenS.zero _ _ _⟩
  case round =>
    obtain ⟨j, hj, rfl, hb, hrow, hwr⟩ := hrel
    have hbw : Below W.heap.size W wr := hb3.trans (hb.mono (by omega))
    have hsz : W.heap.size + 3 ≤ wr.heap.size := by have := hb.size; have := unhide HS; omega
    by_cases hlt : j < len
    · obtain ⟨u, b, off, hu, rfl, ⟨c0, c1, c2, c3⟩, hT, hbk⟩ := kid_at hkids hbw hlt hl1
      have hbu : Below wr.heap.size wr (wr.alloc (.cells #[.int .i64 u.tv.k, .int .i64 u.tv.N, .string u.tv.s, .slice u.tv.a u.tv.len u.tv.cap] 24)) := (Below.refl _ wr).alloc (Nat.le_refl _) _
      have ihu := (unhide HI) u (wr.alloc (.cells #[.int .i64 u.tv.k, .int .i64 u.tv.N, .string u.tv.s, .slice u.tv.a u.tv.len u.tv.cap] 24)) (hbW.trans ((hbw.trans (hbu.mono hbw.size)).mono hbW.size)) ((hT.below hbu).mono hbu.size) ((unhide HO) u (List.mem_of_getElem? hu))
      have hcode := code_take kids j u hu
      have HC := hide hcode
      have HW := hide hwr
      have HRW := hide hrow
      clear hT hkids hu hcode hwr hrow
      simp only [TV.val] at ihu
      have hj1 : (j : Int) < len := by omega
      go_wp2_with fail
      refine ihu.mono ?_
      clear ihu
      rintro e W5 ⟨x5, rfl, hb5, hv⟩
      have hb5' : Below wr.heap.size wr W5 := hbu.trans (hb5.mono hbu.size)
      have hrow5 : Row4 W5 (W.heap.size + 2) len := (unhide HRW).kept (hb5'.block _ (unhide HRW).lt)
      obtain ⟨⟨_, z0⟩, y0⟩ := hrow5.cell (o := j * 4) (by omega)
      obtain ⟨⟨_, z1⟩, y1⟩ := hrow5.cell (o := j * 4 + 1) (by omega)
      obtain ⟨⟨_, z2⟩, y2⟩ := hrow5.cell (o := j * 4 + 2) (by omega)
      obtain ⟨⟨_, z3⟩, y3⟩ := hrow5.cell (o := j * 4 + 3) (by omega)
      have hfin := (unhide HW).next hlt hrow5 hb5' (unhide HRW).lt hv (by simp)
      rw [← unhide HC] at hfin
      have hfin2 := hrow5.set4 (j * 4) x5
      have hfin3 : Below (W.heap.size + 2) W3 (set4 W5 (W.heap.size + 2) (j * 4) x5) := set4_below (hb.trans (hb5'.mono (by omega))) (Nat.le_refl _) _ _
      have G1 := hide hfin
      have G2 := hide hfin2
      have G3 := hide hfin3
      clear hfin hfin2 hfin3 hv hb5 hrow5 hb5' hbu
      dsimp only
      go_wp2_with fail
      go_roundw
      case rel => exact ⟨j + 1, by omega, by go_num, unhide G3, unhide G2, unhide G1⟩
      case measure => simp [intOf]; omega
    · have ht : kids.take j = kids := List.take_of_length_le (by omega)
      obtain rfl : j = len := by omega
      rw [ht] at hwr
      have hzb := (hb.block (W.heap.size + 1) (by omega)).trans (unhide HZ)
      have bT : BoxT wr W.heap.size ⟨k, N, s, a, j, cap⟩ := (hb.block W.heap.size (by omega)).trans (unhide HT)
      obtain ⟨f0, f1, f2, f3⟩ := bT.frz
      have x0 := bT.c0
      have x1 := bT.c1
      have x2 := bT.c2
      have x3 := bT.c3
      simp only at x0 x1 x2 x3
      -- the box with its new Args
      have hset : BoxT (wr.setCell ⟨W.heap.size, 3, none⟩ (.slice (some ⟨W.heap.size + 2, 0, none⟩) j j)) W.heap.size ⟨k, N, s, some ⟨W.heap.size + 2, 0, none⟩, j, j⟩ := (set_cell4 bT _).2.2.2
      have hzb' : (wr.setCell ⟨W.heap.size, 3, none⟩ (.slice (some ⟨W.heap.size + 2, 0, none⟩) j j)).heap[W.heap.size + 1]? = some (.cells #[.int .i64 0, .int .i64 0, .string ⟨#[]⟩, .slice none 0 0] 24 (0, 0)) := (Below.heap_setCell _ _ _ _ (by simp)).trans hzb
      obtain ⟨⟨z0, z1, z2, z3⟩, y0, y1, y2, y3⟩ := zbox_kept hzb'
      have w0 := hset.c0
      have w1 := hset.c1
      have w2 := hset.c2
      have w3 := hset.c3
      simp only at w0 w1 w2 w3
      have hfb : Below W.heap.size W (set4 (wr.setCell ⟨W.heap.size, 3, none⟩ (.slice (some ⟨W.heap.size + 2, 0, none⟩) j j)) (W.heap.size + 1) 0 ⟨k, N, s, some ⟨W.heap.size + 2, 0, none⟩, j, j⟩) := set4_below (hbw.setCell (p := ⟨W.heap.size, 3, none⟩) (Nat.le_refl _) _) (by omega) 0 _
      have hfh := hwr.end (V := set4 (wr.setCell ⟨W.heap.size, 3, none⟩ (.slice (some ⟨W.heap.size + 2, 0, none⟩) j j)) (W.heap.size + 1) 0 ⟨k, N, s, some ⟨W.heap.size + 2, 0, none⟩, j, j⟩) (fun q hq => (set4_other _ _ 0 _ (by omega)).trans (Below.heap_setCell _ _ _ _ (by simp; omega))) (by rw [set4_size]; simp) (by rw [set4_size]; simp; omega) k N s hs (by omega)
      have F1 := hide hfb
      have F2 := hide (hfh.mono (Nat.le_refl _) (S' := (W.heap.size ≤ ·)) (fun b hb => by have : W.heap.size + 2 ≤ b := hb; show W.heap.size ≤ b; omega))
      clear hfb hfh hset hzb hzb' bT hwr ht hkids hrow
      go_wp2_with fail
      exact bodyPost_ret (v := (⟨k, N, s, some ⟨W.heap.size + 2, 0, none⟩, j, j⟩ : TV).val) (by simp [results, Try.results44, go_sem, TV.val, z0, z1, z2, z3]) rfl ⟨_, rfl, unhide F1, unhide F2⟩
/-- base.copyOf, of a term. -/
theorem copyOf_any (w : World) : ∀ (n : Nat) (t : Tm n) (W : World), Below w.heap.size w W → IsT W.heap.size W t → okT t = true → Calls Try.prog 44 #[t.tv.val] W fun e W' => ∃ x : TV, e = .returned x.val ∧ Below W.heap.size W W' ∧ HoldsS n (W.heap.size ≤ ·) W' x.val (code t) := by
  intro n
  induction n with
  | zero => intro t; exact Empty.elim t
  | succ n ih =>
    intro t W hbW hT ok
    obtain ⟨⟨k, N, s, a, len, cap⟩, kids⟩ := t
    have hk := ok_kids ok
    obtain ⟨h1, h2, h3, h4⟩ := hT
    simp only [Tm.tv, Tm.kids] at h1 h2 h3 h4
    rw [code_succ]
    by_cases hl : len = 0
    · subst hl
      obtain rfl : kids = [] := List.length_eq_zero_iff.1 h1.symm
      refine (copyOf_leaf k N s a cap W).mono ?_
      rintro e W' ⟨rfl, hb⟩
      refine ⟨_, rfl, hb, fun m hm => ?_⟩
      obtain ⟨M, rfl⟩ : ∃ M, m = M + 1 := ⟨m - 1, by omega⟩
      exact ⟨((⟨k, N, s, a, 0, cap⟩, []) : TV × List (Tm M)), rfl, ⟨rfl, by show (0 : Nat) ≤ _; omega, h3, .inl rfl⟩, ⟨.inl rfl, fun u hu => by cases hu⟩, by rw [code_succ]; rfl⟩
    · have h50 : len ≤ 50 := by
        rcases wm_cases hk.1 with ⟨_, _, _, _, h⟩ | ⟨_, h⟩ | ⟨_, _, _, h⟩
        · exact (hl h).elim
        · exact (hl h).elim
        · exact h
      exact copyOf_comp w ih k N s a len cap kids W hbW h3 (by omega) h50 h1 h4 hk.2
end Go.Proofs.Ytdjlekcapfeniaa

/- base.predicateOf, keyOf, tall, grown, idAt. -/
namespace Go.Proofs.Ytdjlekcapfeniaa
open Go.RowKit Go.Shelf

def predV (s : ByteArray) (n : Nat) : Value := .agg #[.string s, .int .i64 (n : Int)]
def keyV (k N : Int) (s : ByteArray) (n : Nat) : Value := .agg #[.int .i64 k, .int .i64 N, .string s, .int .i64 (n : Int)]
set_option maxRecDepth 100000 in
set_option maxHeartbeats 1000000 in
theorem predicateOf_any (x : TV) (w : World) : Calls Try.prog 24 #[x.val] w fun e W' => e = .returned (predV x.s x.len) ∧ Below w.heap.size w W' := by
  obtain ⟨k, N, s, a, len, cap⟩ := x
  simp only [TV.val, predV]
  go_enter Try.func24, Try.ntmps24
  go_wp2_with fail
  exact bodyPost_ret (v := predV s len) (by simp [results, Try.results24, go_sem, predV]) rfl ⟨rfl, ((Below.refl _ w).alloc (Nat.le_refl _) _).alloc (by simp) _⟩
/-- What is looked at of a first Arg. -/
def keyOfT {n : Nat} (t : Tm (n + 1)) : Int × Int × ByteArray × Nat :=
  match t.kids with
  | [] => (0, 0, ⟨#[]⟩, 0)
  | u :: _ => if u.tv.k = 1 then (0, 0, ⟨#[]⟩, 0) else (u.tv.k, u.tv.N, u.tv.s, u.tv.len)
def keyOfV {n : Nat} (t : Tm (n + 1)) : Value := keyV (keyOfT t).1 (keyOfT t).2.1 (keyOfT t).2.2.1 (keyOfT t).2.2.2
set_option maxRecDepth 100000 in
set_option maxHeartbeats 1000000 in
theorem keyOf_none (k N : Int) (s : ByteArray) (a : Option Addr) (cap : Nat) (w : World) : Calls Try.prog 28 #[(⟨k, N, s, a, 0, cap⟩ : TV).val] w fun e W' => e = .returned (keyV 0 0 ⟨#[]⟩ 0) ∧ Below w.heap.size w W' := by
  simp only [TV.val]
  go_enter Try.func28, Try.ntmps28
  go_wp2_with fail
  exact bodyPost_ret (v := keyV 0 0 ⟨#[]⟩ 0) (by simp [results, Try.results28, go_sem, keyV]) rfl ⟨rfl, ((Below.refl _ w).alloc (Nat.le_refl _) _).alloc (by simp) _⟩
set_option maxRecDepth 100000 in
set_option maxHeartbeats 1000000 in
theorem keyOf_var (k N : Int) (s : ByteArray) (b off len cap : Nat) (u : TV) (w : World) (hl : 1 ≤ len) (hb : b < w.heap.size) (hu : cellsAt w b off u) (hk : u.k = 1) : Calls Try.prog 28 #[(⟨k, N, s, some ⟨b, off, none⟩, len, cap⟩ : TV).val] w fun e W' => e = .returned (keyV 0 0 ⟨#[]⟩ 0) ∧ Below w.heap.size w W' := by
  have hb2 : Below w.heap.size w ((w.alloc (.cells #[.int .i64 k, .int .i64 N, .string s, .slice (some ⟨b, off, none⟩) len cap] 24)).alloc (.cells #[.int .i64 0, .int .i64 0, .string ⟨#[]⟩, .int .i64 0] 78)) := ((Below.refl _ w).alloc (Nat.le_refl _) _).alloc (by simp) _
  obtain ⟨u0, u1, u2, u3⟩ := hu.kept (hb2.block b hb)
  rw [hk] at u0
  have hl0 : ((len : Int) == 0) = false := by simp; omega
  have hl1 : (0 : Int) < len := by omega
  clear hu u1 u2 u3 hk hb hb2
  simp only [TV.val]
  go_enter Try.func28, Try.ntmps28
  go_wp2_with fail
  exact bodyPost_ret (v := keyV 0 0 ⟨#[]⟩ 0) (by simp [results, Try.results28, go_sem, keyV]) rfl ⟨rfl, ((Below.refl _ w).alloc (Nat.le_refl _) _).alloc (by simp) _⟩
set_option maxRecDepth 100000 in
set_option maxHeartbeats 1000000 in
theorem keyOf_some (k N : Int) (s : ByteArray) (b off len cap : Nat) (u : TV) (w : World) (hl : 1 ≤ len) (hb : b < w.heap.size) (hu : cellsAt w b off u) (hk : ¬ u.k = 1) : Calls Try.prog 28 #[(⟨k, N, s, some ⟨b, off, none⟩, len, cap⟩ : TV).val] w fun e W' => e = .returned (keyV u.k u.N u.s u.len) ∧ Below w.heap.size w W' := by
  have hb2 : Below w.heap.size w ((w.alloc (.cells #[.int .i64 k, .int .i64 N, .string s, .slice (some ⟨b, off, none⟩) len cap] 24)).alloc (.cells #[.int .i64 0, .int .i64 0, .string ⟨#[]⟩, .int .i64 0] 78)) := ((Below.refl _ w).alloc (Nat.le_refl _) _).alloc (by simp) _
  obtain ⟨u0, u1, u2, u3⟩ := hu.kept (hb2.block b hb)
  have hk' : (u.k == 1) = false := by simpa using hk
  have hl0 : ((len : Int) == 0) = false := by simp; omega
  have hl1 : (0 : Int) < len := by omega
  clear hu hk hb hb2
  simp only [TV.val]
  go_enter Try.func28, Try.ntmps28
  go_wp2_with fail
  exact bodyPost_ret (v := keyV u.k u.N u.s u.len) (by simp [results, Try.results28, go_sem, keyV]) rfl ⟨rfl, (((Below.refl _ w).alloc (Nat.le_refl _) _).alloc (by simp) _).alloc (by simp; omega) _⟩
theorem keyOf_any {n : Nat} (t : Tm (n + 1)) (w : World) (hT : IsT w.heap.size w t) : Calls Try.prog 28 #[t.tv.val] w fun e W' => e = .returned (keyOfV t) ∧ Below w.heap.size w W' := by
  obtain ⟨⟨k, N, s, a, len, cap⟩, kids⟩ := t
  obtain ⟨h1, h2, h3, h4⟩ := hT
  simp only [Tm.tv, Tm.kids] at h1 h2 h3 h4
  cases kids with
  | nil =>
    obtain rfl : len = 0 := h1
    exact keyOf_none k N s a cap w
  | cons u r =>
    rcases h4 with h4 | ⟨b, off, rfl, hb, hk⟩
    · cases h4
    · obtain ⟨cu, _⟩ := hk 0 u rfl
      have cu' : cellsAt w b (off + 0 * 4) u.tv := cu
      rw [Nat.zero_mul, Nat.add_zero] at cu'
      have hl : 1 ≤ len := by simp at h1; omega
      by_cases hk1 : u.tv.k = 1
      · have e : keyOfV (n := n) ((⟨k, N, s, some ⟨b, off, none⟩, len, cap⟩, u :: r) : TV × List (Tm n)) = keyV 0 0 ⟨#[]⟩ 0 := by
          unfold keyOfV keyOfT
          simp [Tm.kids, hk1]
        rw [e]
        exact keyOf_var k N s b off len cap u.tv w hl hb cu' hk1
      · have e : keyOfV (n := n) ((⟨k, N, s, some ⟨b, off, none⟩, len, cap⟩, u :: r) : TV × List (Tm n)) = keyV u.tv.k u.tv.N u.tv.s u.tv.len := by
          unfold keyOfV keyOfT
          simp [Tm.kids, hk1]
        rw [e]
        exact keyOf_some k N s b off len cap u.tv w hl hb cu' hk1
set_option maxHeartbeats 400000 in
theorem tall_nil (w : World) : Calls Try.prog 55 #[.pointer none] w fun e W' => e = .returned (.int .i64 0) ∧ W' = w := by
  go_enter Try.func55, Try.ntmps55
  go_wp2
  all_goals go_ret
  all_goals exact ⟨rfl, rfl⟩
set_option maxHeartbeats 400000 in
theorem tall_at (b : Nat) (h : Int) (w : World) (hc : w.cell? ⟨b, 3, none⟩ = some (.int .i64 h)) : Calls Try.prog 55 #[.pointer (some ⟨b, 0, none⟩)] w fun e W' => e = .returned (.int .i64 h) ∧ W' = w := by
  go_enter Try.func55, Try.ntmps55
  go_wp2
  all_goals go_ret
  all_goals exact ⟨rfl, rfl⟩
/-- How tall a tree's pointer tells that it is. -/
def Tall (w : World) (p : Option Addr) (h : Int) : Prop := (p = none ∧ h = 0) ∨ ∃ b, p = some ⟨b, 0, none⟩ ∧ w.cell? ⟨b, 3, none⟩ = some (.int .i64 h)
theorem tall_any {p : Option Addr} {h : Int} {w : World} (ht : Tall w p h) : Calls Try.prog 55 #[.pointer p] w fun e W' => e = .returned (.int .i64 h) ∧ W' = w := by
  rcases ht with ⟨rfl, rfl⟩ | ⟨b, rfl, hc⟩
  · exact tall_nil w
  · exact tall_at b h w hc
set_option maxRecDepth 100000 in
set_option maxHeartbeats 1000000 in
theorem grown_any (l e r : Option Addr) (hl hr : Int) (w : World) (h1 : Tall w l hl) (h2 : Tall w r hr) (b1 : 0 ≤ hl ∧ hl < 4611686018427387904) (b2 : 0 ≤ hr ∧ hr < 4611686018427387904) :
    Calls Try.prog 49 #[.pointer l, .pointer e, .pointer r] w fun e' W' => e' = .returned (.pointer (some ⟨w.heap.size, 0, none⟩)) ∧ W' = w.alloc (.cells #[.pointer e, .pointer l, .pointer r, .int .i64 (max hl hr + 1)] 107) := by
  have t1 := tall_any h1
  have t2 := tall_any h2
  have hw : wrap64 (max hl hr + 1) = max hl hr + 1 := by unfold wrap64; omega
  clear h1 h2
  go_enter Try.func49, Try.ntmps49
  go_wp2_with fail
  refine t1.mono ?_
  rintro e1 W1 ⟨rfl, rfl⟩
  clear t1
  go_wp2_with fail
  refine t2.mono ?_
  rintro e2 W2 ⟨rfl, rfl⟩
  clear t2
  go_wp2_with fail
  all_goals go_ret
  all_goals exact ⟨rfl, rfl⟩
end Go.Proofs.Ytdjlekcapfeniaa

