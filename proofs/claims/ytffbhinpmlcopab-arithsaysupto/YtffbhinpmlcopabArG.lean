import Derived.Test.YtffbhinpmlcopabArF
import Derived.Test.YtffbhinpmlcopabD
/- arith.number. -/
namespace Go.Proofs.Ytffbhinpmlcopab
open Go.RowKit Go.Shelf

theorem deed_nil (g : Nat) (lb : Array Value) (w : World) : (binOp .eql 118 (.func (.func g) #[] lb) .nilFunc).run Try.prog w = .ok (.bool false) w := by
  kernel_rfl
theorem nil_nil (w : World) : (binOp .eql 118 .nilFunc .nilFunc).run Try.prog w = .ok (.bool true) w := by
  kernel_rfl
theorem setTwo {W : World} {B : Nat} {x y : Value} {t : TypeId} (h : W.heap[B]? = some (.cells #[x, y] t (0, 0))) (v : Value) :
    (W.setCell ⟨B, 0, none⟩ v).heap[B]? = some (.cells #[v, y] t (0, 0)) ∧ (W.setCell ⟨B, 1, none⟩ v).heap[B]? = some (.cells #[x, v] t (0, 0)) := by
  obtain ⟨hlt, hk⟩ := Array.getElem?_eq_some_iff.1 h
  refine ⟨?_, ?_⟩
  · show (W.heap.modify B _)[B]? = _
    rw [Array.getElem?_eq_getElem (by rw [Array.size_modify]; exact hlt), Array.getElem_modify_self, hk]
    rfl
  · show (W.heap.modify B _)[B]? = _
    rw [Array.getElem?_eq_getElem (by rw [Array.size_modify]; exact hlt), Array.getElem_modify_self, hk]
    rfl
set_option maxRecDepth 100000 in
set_option maxHeartbeats 1000000 in
theorem number_int (N : Int) (s : ByteArray) (a : Option Addr) (len cap : Nat) (W : World) :
    Calls Try.prog 30 #[.agg #[.int .i64 2, .int .i64 N, .string s, .slice a len cap]] W fun e W' => e = .returned (.tuple #[.int .i64 N, noTerm.val, .int .i64 0]) ∧ Below W.heap.size W W' := by
  go_enter Try.func30, Try.ntmps30
  go_wp2
  exact bodyPost_ret (v := .tuple #[.int .i64 N, noTerm.val, .int .i64 0]) (by simp [results, Try.results30, go_sem, TV.val, noTerm]) rfl ⟨rfl, ((Below.refl _ _).alloc (Nat.le_refl _) _).alloc (by simp) _⟩

theorem unbL_eq : (⟨#[117, 110, 98, 111, 117, 110, 100]⟩ : ByteArray).toList = unbL := by decide +kernel
set_option maxRecDepth 100000 in
set_option maxHeartbeats 1000000 in
theorem number_var (N : Int) (s : ByteArray) (a : Option Addr) (len cap : Nat) (W : World) :
    Calls Try.prog 30 #[.agg #[.int .i64 1, .int .i64 N, .string s, .slice a len cap]] W fun e W' => NumSays W.heap.size (.error (atomC unbL)) e W' ∧ Below W.heap.size W W' := by
  have ha := aatom_any ⟨#[117, 110, 98, 111, 117, 110, 100]⟩
  simp only [atomV, TV.val] at ha
  obtain ⟨W2, hW2, hb2, hs2, bT, hz⟩ := box_zero W ⟨1, N, s, a, len, cap⟩
  simp only at hW2
  have c0 := bT.c0
  simp only at c0
  go_enter Try.func30, Try.ntmps30
  go_wp2_with fail
  refine (ha _).mono ?_
  rintro e W3 ⟨rfl, hb3⟩
  clear ha c0 bT
  try rw [hW2] at hb3
  clear hW2
  have hz3 : W3.heap[W.heap.size + 1]? = _ := (hb3.block _ (by omega)).trans hz
  obtain ⟨⟨z0, z1, z2, z3⟩, y0, y1, y2, y3⟩ := zbox_kept hz3
  have HF : Hid (HoldsT 3 W.heap.size (set4 W3 (W.heap.size + 1) 0 (atomV ⟨#[117, 110, 98, 111, 117, 110, 100]⟩)) (atomV ⟨#[117, 110, 98, 111, 117, 110, 100]⟩).val (atomC unbL) ∧ Below W.heap.size W (set4 W3 (W.heap.size + 1) 0 (atomV ⟨#[117, 110, 98, 111, 117, 110, 100]⟩))) := by
    refine ⟨?_, set4_below (hb2.trans (hb3.mono (by omega))) (by omega) 0 _⟩
    have h := (atom_holds ⟨#[117, 110, 98, 111, 117, 110, 100]⟩ (by decide) W.heap.size (set4 W3 (W.heap.size + 1) 0 (atomV ⟨#[117, 110, 98, 111, 117, 110, 100]⟩))).mono (D' := 3) (by omega) (Nat.le_refl _)
    rw [unbL_eq] at h
    exact h
  clear hz hz3 hb3 hb2 hs2
  go_wp2_with fail
  exact bodyPost_ret (v := .tuple #[.int .i64 0, (atomV ⟨#[117, 110, 98, 111, 117, 110, 100]⟩).val, .int .i64 14]) (by simp [results, Try.results30, go_sem, TV.val, atomV, z0, z1, z2, z3]) rfl ⟨⟨_, rfl, HF.out.1⟩, HF.out.2⟩

set_option maxRecDepth 100000 in
set_option maxHeartbeats 1000000 in
theorem number_none (k N : Int) (s : ByteArray) (a : Option Addr) (len cap : Nat) (hk : k = 3 ∨ k = 4) (hs : s.size ≤ 9223372036854775807) (ho : opOf s.toList len = none) (W : World) :
    Calls Try.prog 30 #[.agg #[.int .i64 k, .int .i64 N, .string s, .slice a len cap]] W fun e W' => NumSays W.heap.size (.error (notC s.toList len)) e W' ∧ Below W.heap.size W W' := by
  have hf := afind_any s len
  rw [ho] at hf
  clear ho
  have hne := fun W => notEvaluable_any s hs len W
  obtain ⟨W2, hW2, hb2, hs2, bT, hz⟩ := box_zero W ⟨k, N, s, a, len, cap⟩
  simp only at hW2
  have hk1 : (k == 2) = false := by rcases hk with rfl | rfl <;> rfl
  have hk2 : (k == 1) = false := by rcases hk with rfl | rfl <;> rfl
  clear hk
  have c0 := bT.c0
  have c2 := bT.c2
  have c3 := bT.c3
  simp only at c0 c2 c3
  go_enter Try.func30, Try.ntmps30
  go_wp2_with fail
  refine (hf _).mono ?_
  rintro e W3 ⟨v, rfl, hb3, hv⟩
  obtain rfl : v = .nilFunc := hv
  try rw [hW2] at hb3
  clear hf hW2 c0 c2 c3
  have bT3 : BoxT W3 W.heap.size ⟨k, N, s, a, len, cap⟩ := (hb3.block _ (by omega)).trans bT
  have c2 := bT3.c2
  have c3 := bT3.c3
  simp only at c2 c3
  have hnil := nil_nil W3
  go_wp2_with fail
  refine (hne _).mono ?_
  rintro e W4 ⟨x, rfl, hb4, hx⟩
  have s3 := hb3.size
  have hz4 : W4.heap[W.heap.size + 1]? = _ := (hb4.block _ (by omega)).trans ((hb3.block _ (by omega)).trans hz)
  obtain ⟨⟨z0, z1, z2, z3⟩, y0, y1, y2, y3⟩ := zbox_kept hz4
  have hbt : Below W.heap.size W W4 := (hb2.trans (hb3.mono (by omega))).trans (hb4.mono (by omega))
  have HF : Hid (HoldsT 3 W.heap.size (set4 W4 (W.heap.size + 1) 0 x) x.val (notC s.toList len) ∧ Below W.heap.size W (set4 W4 (W.heap.size + 1) 0 x)) :=
    ⟨(holds_set4 hx (by omega) 0 _).mono (Nat.le_refl _) (by omega), set4_below hbt (by omega) 0 _⟩
  clear hne c2 c3 bT bT3 hz hz4 hb3 hb4 hx hbt
  simp only [TV.val]
  go_wp2_with fail
  exact bodyPost_ret (v := .tuple #[.int .i64 0, x.val, .int .i64 14]) (by simp [results, Try.results30, go_sem, TV.val, z0, z1, z2, z3]) rfl ⟨⟨_, rfl, HF.out.1⟩, HF.out.2⟩

set_option maxRecDepth 100000 in
set_option maxHeartbeats 4000000 in
theorem number_some {n : Nat}
    (ih : ∀ (u : Tm n) (W : World), IsT W.heap.size W u → okT u = true → numsT u → Calls Try.prog 30 #[u.tv.val] W fun e W' => NumSays W.heap.size (evT u) e W' ∧ Below W.heap.size W W')
    (k N : Int) (s : ByteArray) (a : Option Addr) (len cap : Nat) (kids : List (Tm n)) (W : World) (hk : k = 3 ∨ k = 4) (f : Int → Int → Except ByteArray Int) (ho : opOf s.toList len = some f) (hlen : len = kids.length)
    (hkids : kids = [] ∨ ∃ b off, a = some ⟨b, off, none⟩ ∧ b < W.heap.size ∧ ∀ j u, kids[j]? = some u → cellsAt W b (off + j * 4) u.tv ∧ IsT W.heap.size W u) (hok : ∀ u ∈ kids, okT u = true) (hnum : ∀ u ∈ kids, numsT u) :
    Calls Try.prog 30 #[.agg #[.int .i64 k, .int .i64 N, .string s, .slice a len cap]] W fun e W' => NumSays W.heap.size (fromArgs f (evL evT kids)) e W' ∧ Below W.heap.size W W' := by
  have hf := afind_any s len
  rw [ho] at hf
  have hl12 := op_len ho
  have HOP : Hid (∀ (a b : Int), inR a → inR b → goodAt a b f) := fun a b ha hb => op_in ho ha hb
  have hl1 : len ≤ kids.length := by omega
  have hl2 : kids.length ≤ len := by omega
  clear ho hlen
  obtain ⟨W2, hW2, hb2, hs2, bT, hz⟩ := box_zero W ⟨k, N, s, a, len, cap⟩
  simp only at hW2
  have hk1 : (k == 2) = false := by rcases hk with rfl | rfl <;> rfl
  have hk2 : (k == 1) = false := by rcases hk with rfl | rfl <;> rfl
  clear hk
  have c0 := bT.c0
  have c2 := bT.c2
  have c3 := bT.c3
  simp only at c0 c2 c3
  have HI : Hid _ := ih
  have HO : Hid _ := hok
  have HN : Hid _ := hnum
  have HK : Hid _ := hkids
  clear ih hok hnum hkids
  go_enter Try.func30, Try.ntmps30
  go_wp2_with fail
  refine (hf _).mono ?_
  rintro e W3 ⟨v, rfl, hb3, hv⟩
  try rw [hW2] at hb3
  clear hf hW2 c0 c2 c3
  obtain ⟨g, lb, rfl, eg, hg⟩ := hv
  have HG : Hid _ := hg
  clear hg
  have s3 := hb3.size
  have bT3 : BoxT W3 W.heap.size ⟨k, N, s, a, len, cap⟩ := (hb3.block _ (by omega)).trans bT
  obtain ⟨W4, hW4, c3, hof, hb4⟩ : ∃ W4, W3.alloc (.cells #[.int .i64 0, .int .i64 0] 121) = W4 ∧ W4.cell? ⟨W.heap.size, 3, none⟩ = some (.slice a len cap) ∧ W4.heap[W3.heap.size]? = some (.cells #[.int .i64 0, .int .i64 0] 121 (0, 0)) ∧ Below W3.heap.size W3 W4 :=
    ⟨_, rfl, (bT3.alloc _).c3, World.alloc_heap_new _ _, (Below.refl _ W3).alloc (Nat.le_refl _) _⟩
  have hz3 : W3.heap[W.heap.size + 1]? = _ := (hb3.block _ (by omega)).trans hz
  have HZ : Hid _ := hz3
  have HOF : Hid _ := hof
  have hbW : Below W.heap.size W W3 := hb2.trans (hb3.mono (by omega))
  clear bT bT3 hz hz3 hof hb2 hb3
  have hnil := deed_nil g lb W3
  go_wp2_with fail
  clear hnil hW4 c3
  go_loopw [41] (fun i wr => ∃ j : Nat, j ≤ len ∧ i = .int .i64 j ∧ Below W3.heap.size W3 wr ∧ ∃ ns : List Int, Hid (evL evT (kids.take j) = .ok ns ∧ (∀ n ∈ ns, inR n) ∧ ns.length = j) ∧ Hid (wr.heap[W3.heap.size]? = some (.cells #[.int .i64 (ns.getD 0 0), .int .i64 (ns.getD 1 0)] 121 (0, 0)))) (fun i _ => len - (intOf i).toNat)
  case atStart => exact ⟨0, Nat.zero_le _, rfl, hb4, [], ⟨by simp [evL], by simp, rfl⟩, HOF.out⟩
  case round =>
    obtain ⟨j, hj, rfl, hbr, ns, HNS, HOW⟩ := hrel
    have sr := hbr.size
    have hbw : Below W.heap.size W wr := hbW.trans (hbr.mono (by omega))
    clear HOF hb4
    have hltB : W3.heap.size < wr.heap.size := (Array.getElem?_eq_some_iff.1 HOW.out).1
    by_cases hlt : j < len
    · obtain ⟨u, b, off, hu, ha, ⟨c0, c1, c2, c3⟩, hT, hbk⟩ := kid_at HK.out hbw hlt hl1
      subst ha
      have hmem : u ∈ kids := List.mem_of_getElem? hu
      have hst := evL_step hu HNS.out.1
      have hin := evT_in u (HN.out u hmem)
      have hbu : Below wr.heap.size wr (wr.alloc (.cells #[.int .i64 u.tv.k, .int .i64 u.tv.N, .string u.tv.s, .slice u.tv.a u.tv.len u.tv.cap] 24)) := (Below.refl _ wr).alloc (Nat.le_refl _) _
      have ihu := HI.out u _ ((hT.below hbu).mono hbu.size) (HO.out u hmem) (HN.out u hmem)
      simp only [TV.val] at ihu
      clear hT hu hmem
      cases hev : evT u with
      | ok n =>
        rw [hev] at ihu
        have h1 := hst.1 n hev
        have h2 := hin n hev
        have HST : Hid _ := h1
        have HIN : Hid _ := h2
        clear hst hin hev h1 h2
        go_wp2_with fail
        refine ihu.mono ?_
        rintro e W5 ⟨he, hb5⟩
        simp only [NumSays, noTerm, TV.val] at he
        subst he
        clear ihu
        have s5 := hb5.size
        simp only [World.size_alloc] at s5
        have hB5 : Below W3.heap.size W3 W5 := (hbr.trans (hbu.mono sr)).trans (hb5.mono (by simp; omega))
        have hof5 : W5.heap[W3.heap.size]? = _ := (hb5.block _ (by simp; omega)).trans ((hbu.block _ hltB).trans HOW.out)
        have hof6 : (W5.alloc (.cells #[.int .i64 0, .int .i64 0, .string ⟨#[]⟩, .slice none 0 0] 24)).heap[W3.heap.size]? = _ := (Below.heap_alloc W5 _ _ (by omega)).trans hof5
        have hj2 : j = 0 ∨ j = 1 := by omega
        have oj : ((W5.alloc (.cells #[.int .i64 0, .int .i64 0, .string ⟨#[]⟩, .slice none 0 0] 24)).cell? ⟨W3.heap.size, j, none⟩) = some (.int .i64 (ns.getD j 0)) := by
          rcases hj2 with rfl | rfl <;> simp [World.cell?, hof6]
        have fj : (W5.alloc (.cells #[.int .i64 0, .int .i64 0, .string ⟨#[]⟩, .slice none 0 0] 24)).frozen? ⟨W3.heap.size, j, none⟩ = false := by
          rcases hj2 with rfl | rfl <;> simp [World.frozen?, hof6]
        have HO6 : Hid _ := hof6
        clear hof6 hof5
        go_wp2_with fail
        obtain ⟨k1, k2, k3⟩ := HNS.out
        refine ⟨⟨j + 1, by omega, by go_num, (hB5.alloc (by omega) _).setCell (p := ⟨W3.heap.size, j, none⟩) (Nat.le_refl _) _, ns ++ [n], ⟨HST.out, fun q hq => ?_, by simp [k3]⟩, ?_⟩, by simp [intOf]; omega⟩
        · rcases List.mem_append.1 hq with hq | hq
          · exact k2 q hq
          · have : q = n := by simpa using hq
            subst this
            exact HIN.out
        · have hs := setTwo HO6.out (.int .i64 n)
          rcases hj2 with rfl | rfl
          · obtain rfl : ns = [] := List.length_eq_zero_iff.1 k3
            have h1 := hs.1
            simp only [List.nil_append, List.getD_eq_getElem?_getD] at h1 ⊢
            exact h1
          · obtain ⟨m, rfl⟩ := List.length_eq_one_iff.1 k3
            have h1 := hs.2
            simp only [List.cons_append, List.nil_append, List.getD_eq_getElem?_getD] at h1 ⊢
            exact h1
      | error c =>
        rw [hev] at ihu
        have h1 := hst.2 c hev
        have HST : Hid _ := h1
        clear hst hin hev h1
        go_wp2_with fail
        refine ihu.mono ?_
        rintro e W5 ⟨he, hb5⟩
        simp only [NumSays] at he
        obtain ⟨x, rfl, hx⟩ := he
        simp only [TV.val]
        clear ihu
        have s5 := hb5.size
        simp only [World.size_alloc] at s5
        have hB5 : Below W3.heap.size W3 W5 := (hbr.trans (hbu.mono sr)).trans (hb5.mono (by simp; omega))
        have hz5 : W5.heap[W.heap.size + 1]? = _ := (hB5.block _ (by omega)).trans HZ.out
        have bX := BoxT.new W5 x
        have hz6 : (W5.alloc (.cells #[.int .i64 x.k, .int .i64 x.N, .string x.s, .slice x.a x.len x.cap] 24)).heap[W.heap.size + 1]? = _ := (Below.heap_alloc W5 _ _ (by omega)).trans hz5
        have x0 := bX.c0
        have x1 := bX.c1
        have x2 := bX.c2
        have x3 := bX.c3
        obtain ⟨⟨z0, z1, z2, z3⟩, y0, y1, y2, y3⟩ := zbox_kept hz6
        obtain ⟨W6, hW6⟩ : ∃ W6, W5.alloc (.cells #[.int .i64 x.k, .int .i64 x.N, .string x.s, .slice x.a x.len x.cap] 24) = W6 := ⟨_, rfl⟩
        have hB6 : Below W5.heap.size W5 W6 := by rw [← hW6]; exact (Below.refl _ W5).alloc (Nat.le_refl _) _
        rw [hW6] at x0 x1 x2 x3 z0 z1 z2 z3 y0 y1 y2 y3
        have hBt : Below W.heap.size W W6 := (hbW.trans (hB5.mono (by omega))).trans (hB6.mono (by omega))
        have HF : Hid (HoldsT 3 W.heap.size (set4 W6 (W.heap.size + 1) 0 x).drew x.val c ∧ Below W.heap.size W (set4 W6 (W.heap.size + 1) 0 x).drew) :=
          ⟨((holds_set4 (hx.below hB6) (by simp; omega) 0 _).mono (Nat.le_refl _) (by simp; omega)).below (Below.refl _ _).drew, (set4_below hBt (by omega) 0 _).drew⟩
        have HE : Hid (fromArgs f (evL evT kids) = .error c) := by rw [HST.out]; rfl
        clear bX hz5 hz6 hB6 hBt hB5 hb5 hx hbu c0 c1 c2 c3
        go_wp2_with fail
        try rw [hW6]
        clear hW6
        go_region
        go_wp2_with fail
        refine bodyPost_ret (v := .tuple #[.int .i64 0, x.val, .int .i64 14]) (by simp [results, Try.results30, go_sem, TV.val, z0, z1, z2, z3]) rfl ⟨?_, HF.out.2⟩
        rw [HE.out]
        exact ⟨_, rfl, HF.out.1⟩
    · have htk : kids.take j = kids := List.take_of_length_le (by omega)
      obtain ⟨k1, k2, k3⟩ := HNS.out
      rw [htk] at k1
      have o0 : wr.cell? ⟨W3.heap.size, 0, none⟩ = some (.int .i64 (ns.getD 0 0)) := by simp [World.cell?, HOW.out]
      have o1 : wr.cell? ⟨W3.heap.size, 1, none⟩ = some (.int .i64 (ns.getD 1 0)) := by simp [World.cell?, HOW.out]
      have i0 := getD_in k2 0
      have i1 := getD_in k2 1
      have hcall := HG.out _ _ wr i0 i1 trivial hbr
      have hgood := HOP.out _ _ i0 i1
      have HE2 : Hid (fromArgs f (evL evT kids) = thrown (f (ns.getD 0 0) (ns.getD 1 0))) := by rw [k1]; rfl
      clear k1 k2 k3 htk i0 i1
      generalize ns.getD 0 0 = p at *
      generalize ns.getD 1 0 = q at *
      have hz5 : wr.heap[W.heap.size + 1]? = _ := (hbr.block _ (by omega)).trans HZ.out
      have hbW' : Below W.heap.size W wr := hbw
      cases hfr : f p q with
      | ok m =>
        rw [hfr] at hcall
        simp only [ansV] at hcall
        have HR : Hid (fromArgs f (evL evT kids) = .ok m) := by rw [HE2.out, hfr]; rfl
        clear hgood hfr
        go_wp2_with fail
        refine hcall.mono ?_
        rintro e W5 ⟨rfl, hb5⟩
        clear hcall o0 o1
        have hz6 : W5.heap[W.heap.size + 1]? = _ := (hb5.block _ (by omega)).trans hz5
        obtain ⟨⟨z0, z1, z2, z3⟩, y0, y1, y2, y3⟩ := zbox_kept hz6
        have HF : Hid (Below W.heap.size W (set4 W5 (W.heap.size + 1) 0 noTerm)) := set4_below (hbw.trans (hb5.mono hbw.size)) (by omega) 0 _
        clear hz5 hz6 hb5
        go_wp2_with fail
        refine bodyPost_ret (v := .tuple #[.int .i64 m, noTerm.val, .int .i64 0]) (by simp [results, Try.results30, go_sem, TV.val, noTerm, z0, z1, z2, z3]) rfl ⟨?_, HF.out⟩
        rw [HR.out]
        exact rfl
      | error sx =>
        rw [hfr] at hcall
        simp only [ansV] at hcall
        obtain ⟨hse, hss⟩ := bad_some (hgood.2 _ hfr)
        have HR : Hid (fromArgs f (evL evT kids) = .error (atomC sx.toList)) := by rw [HE2.out, hfr]; rfl
        clear hgood hfr
        have hat := aatom_any sx
        simp only [atomV, TV.val] at hat
        go_wp2_with fail
        refine hcall.mono ?_
        rintro e W5 ⟨rfl, hb5⟩
        clear hcall o0 o1
        go_wp2_with fail
        refine (hat _).mono ?_
        rintro e W6 ⟨rfl, hb6⟩
        clear hat
        have s6 := hb5.size
        have hz6 : W6.heap[W.heap.size + 1]? = _ := (hb6.block _ (by omega)).trans ((hb5.block _ (by omega)).trans hz5)
        obtain ⟨⟨z0, z1, z2, z3⟩, y0, y1, y2, y3⟩ := zbox_kept hz6
        have HF : Hid (HoldsT 3 W.heap.size (set4 W6 (W.heap.size + 1) 0 (atomV sx)) (atomV sx).val (atomC sx.toList) ∧ Below W.heap.size W (set4 W6 (W.heap.size + 1) 0 (atomV sx))) :=
          ⟨(atom_holds sx hss _ _).mono (by omega) (Nat.le_refl _), set4_below ((hbw.trans (hb5.mono hbw.size)).trans (hb6.mono (by omega))) (by omega) 0 _⟩
        clear hz5 hz6 hb5 hb6
        go_wp2_with fail
        refine bodyPost_ret (v := .tuple #[.int .i64 0, (atomV sx).val, .int .i64 14]) (by simp [results, Try.results30, go_sem, TV.val, atomV, z0, z1, z2, z3]) rfl ⟨?_, HF.out.2⟩
        rw [HR.out]
        exact ⟨_, rfl, HF.out.1⟩

theorem number_any : ∀ {n : Nat} (t : Tm n) (W : World), IsT W.heap.size W t → okT t = true → numsT t →
    Calls Try.prog 30 #[t.tv.val] W fun e W' => NumSays W.heap.size (evT t) e W' ∧ Below W.heap.size W W' := by
  intro n
  induction n with
  | zero => intro t; exact Empty.elim t
  | succ n ih =>
    intro t W hT hok hnum
    obtain ⟨⟨k, N, s, a, len, cap⟩, kids⟩ := t
    obtain ⟨hlen, hmax, hsm, hkids⟩ := hT
    rw [okT_succ] at hok
    obtain ⟨hx, hks⟩ := Bool.and_eq_true_iff.1 hok
    have hks' : ∀ u ∈ kids, okT u = true := List.all_eq_true.1 hks
    obtain ⟨hN, hnk⟩ := numsT_succ hnum
    rw [evT_succ]
    have hk : k = 1 ∨ k = 2 ∨ k = 3 ∨ k = 4 := by
      unfold TV.ok wmB at hx
      simp only at hx
      by_cases h1 : k = 1
      · exact .inl h1
      by_cases h2 : k = 2
      · exact .inr (.inl h2)
      by_cases h3 : k = 3
      · exact .inr (.inr (.inl h3))
      by_cases h4 : k = 4
      · exact .inr (.inr (.inr h4))
      simp [h1, h2, h3, h4] at hx
    rcases hk with rfl | rfl | hk
    · exact number_var N s a len cap W
    · refine (number_int N s a len cap W).mono fun e W' h => ⟨?_, h.2⟩
      exact h.1
    · have hk1 : k ≠ 2 := by omega
      have hk2 : k ≠ 1 := by omega
      unfold nodeR
      simp only [hk1, hk2, if_false]
      cases ho : opOf s.toList len with
      | none => exact number_none k N s a len cap hk hsm ho W
      | some f => exact number_some ih k N s a len cap kids W hk f ho hlen hkids hks' hnk
end Go.Proofs.Ytffbhinpmlcopab

