import Derived.Test.YtffbhinpmlcopabArYa
/- arith.atOnce. -/
namespace Go.Proofs.Ytffbhinpmlcopab
open Go.RowKit Go.Shelf

/-- What atOnce answers. -/
def atV : Except (List Nd) Int → Value
  | .ok m => .tuple #[.int .i64 m, .bool true]
  | .error _ => .tuple #[.int .i64 0, .bool false]

set_option maxRecDepth 100000 in
set_option maxHeartbeats 1000000 in
theorem atOnce_none (s : ByteArray) (a : Option Addr) (len cap : Nat) (ho : opOf s.toList len = none) (W : World) :
    Calls Try.prog 63 #[.string s, .slice a len cap] W fun e W' => e = .returned (.tuple #[.int .i64 0, .bool false]) ∧ Below W.heap.size W W' := by
  have hf := afind_any s len
  rw [ho] at hf
  clear ho
  go_enter Try.func63, Try.ntmps63
  go_wp2_with fail
  refine (hf _).mono ?_
  rintro e W3 ⟨v, rfl, hb3, hv⟩
  obtain rfl : v = .nilFunc := hv
  clear hf
  have hnil := nil_nil W3
  go_wp2
  all_goals go_ret2
  all_goals exact ⟨rfl, hb3⟩

set_option maxRecDepth 100000 in
set_option maxHeartbeats 4000000 in
theorem atOnce_some {n M : Nat} (s : ByteArray) (b len cap : Nat) (kids : List (Tm n)) (ks : List (Tm M)) (W : World) (f : Int → Int → Except ByteArray Int) (ho : opOf s.toList len = some f) (hlen : len = kids.length) (hkl : ks.length = len)
    (hbk : b < W.heap.size) (hcell : ∀ i v, ks[i]? = some v → cellsAt W b (i * 4) v.tv) (hnum : ∀ u ∈ kids, numsT u) (hsp : Speaks kids ks) :
    Calls Try.prog 63 #[.string s, .slice (some ⟨b, 0, none⟩) len cap] W fun e W' => e = .returned (atV (fromArgs f (evL evT kids))) ∧ Below W.heap.size W W' := by
  have hf := afind_any s len
  rw [ho] at hf
  have hl12 := op_len ho
  have HOP : Hid (∀ (a b : Int), inR a → inR b → goodAt a b f) := fun a b ha hb => op_in ho ha hb
  have hl1 : len ≤ kids.length := by omega
  have hl2 : kids.length ≤ len := by omega
  have hl3 : len ≤ ks.length := by omega
  clear ho hlen hkl
  have HN : Hid _ := hnum
  have HC : Hid _ := hcell
  have HS : Hid (Speaks kids ks) := hsp
  clear hnum hcell hsp
  go_enter Try.func63, Try.ntmps63
  go_wp2_with fail
  refine (hf _).mono ?_
  rintro e W3 ⟨v, rfl, hb3, hv⟩
  clear hf
  obtain ⟨g, lb, rfl, eg, hg⟩ := hv
  have HG : Hid _ := hg
  clear hg
  have s3 := hb3.size
  have hof : (W3.alloc (.cells #[.int .i64 0, .int .i64 0] 121)).heap[W3.heap.size]? = some (.cells #[.int .i64 0, .int .i64 0] 121 (0, 0)) := World.alloc_heap_new _ _
  have hb4 : Below W3.heap.size W3 (W3.alloc (.cells #[.int .i64 0, .int .i64 0] 121)) := (Below.refl _ W3).alloc (Nat.le_refl _) _
  have HOF : Hid _ := hof
  have HB4 : Hid _ := hb4
  clear hof hb4
  have hnil := deed_nil g lb W3
  go_wp2_with fail
  clear hnil
  go_loopw [20] (fun i wr => ∃ j : Nat, j ≤ len ∧ i = .int .i64 j ∧ Below W3.heap.size W3 wr ∧ ∃ ns : List Int, Hid (evL evT (kids.take j) = .ok ns ∧ (∀ n ∈ ns, inR n) ∧ ns.length = j) ∧ Hid (wr.heap[W3.heap.size]? = some (.cells #[.int .i64 (ns.getD 0 0), .int .i64 (ns.getD 1 0)] 121 (0, 0)))) (fun i _ => len - (intOf i).toNat)
  case atStart => exact ⟨0, Nat.zero_le _, rfl, HB4.out, [], ⟨by simp [evL], by simp, rfl⟩, HOF.out⟩
  case round =>
    obtain ⟨j, hj, rfl, hbr, ns, HNS, HOW⟩ := hrel
    have sr := hbr.size
    have hbw : Below W.heap.size W wr := hb3.trans (hbr.mono (by omega))
    clear HOF HB4
    have hltB : W3.heap.size < wr.heap.size := (Array.getElem?_eq_some_iff.1 HOW.out).1
    by_cases hlt : j < len
    · obtain ⟨u, hu⟩ : ∃ u, kids[j]? = some u := ⟨kids[j]'(by omega), List.getElem?_eq_getElem (by omega)⟩
      obtain ⟨v, hv⟩ : ∃ v, ks[j]? = some v := ⟨ks[j]'(by omega), List.getElem?_eq_getElem (by omega)⟩
      obtain ⟨c0, c1, c2, c3⟩ := HC.out j v hv
      replace c0 := (hbw.cell (p := ⟨b, j * 4, none⟩) hbk).trans c0
      replace c1 := (hbw.cell (p := ⟨b, j * 4 + 1, none⟩) hbk).trans c1
      replace c2 := (hbw.cell (p := ⟨b, j * 4 + 2, none⟩) hbk).trans c2
      replace c3 := (hbw.cell (p := ⟨b, j * 4 + 3, none⟩) hbk).trans c3
      have hmem : u ∈ kids := List.mem_of_getElem? hu
      have hst := evL_step hu HNS.out.1
      have hin := evT_in u (HN.out u hmem)
      obtain ⟨sp1, sp2⟩ := (show Speaks kids ks from HS.out) j u v hu hv
      obtain ⟨⟨vk, vN, vs, va, vl, vc⟩, hvt⟩ : ∃ x : TV, v.tv = x := ⟨_, rfl⟩
      rw [hvt] at c0 c1 c2 c3 sp1 sp2
      simp only at c0 c1 c2 c3 sp1 sp2
      clear hmem hu hv hvt
      have hj1 : (j : Int) < len := by omega
      cases hev : evT u with
      | ok m =>
        obtain ⟨hk2, hN⟩ := sp1 m hev
        subst hk2 hN
        have h1 := hst.1 _ hev
        have h2 := hin _ hev
        have HST : Hid _ := h1
        have HIN : Hid _ := h2
        clear hst hin hev h1 h2 sp1 sp2
        have hof6 : (wr.alloc (.cells #[.int .i64 2, .int .i64 vN, .string vs, .slice va vl vc] 24)).heap[W3.heap.size]? = _ := (Below.heap_alloc wr _ _ hltB).trans HOW.out
        have hj2 : j = 0 ∨ j = 1 := by omega
        have oj : ((wr.alloc (.cells #[.int .i64 2, .int .i64 vN, .string vs, .slice va vl vc] 24)).cell? ⟨W3.heap.size, j, none⟩) = some (.int .i64 (ns.getD j 0)) := by
          rcases hj2 with rfl | rfl <;> simp [World.cell?, hof6]
        have fj : (wr.alloc (.cells #[.int .i64 2, .int .i64 vN, .string vs, .slice va vl vc] 24)).frozen? ⟨W3.heap.size, j, none⟩ = false := by
          rcases hj2 with rfl | rfl <;> simp [World.frozen?, hof6]
        clear hof6
        go_wp2_with fail
        obtain ⟨k1, k2, k3⟩ := HNS.out
        refine ⟨⟨j + 1, by omega, by go_num, (hbr.setCell (p := ⟨W3.heap.size, j, none⟩) (Nat.le_refl _) _).alloc (by simp; omega) _, ns ++ [vN], ⟨HST.out, fun q hq => ?_, by simp [k3]⟩, ?_⟩, by simp [intOf]; omega⟩
        · rcases List.mem_append.1 hq with hq | hq
          · exact k2 q hq
          · have : q = vN := by simpa using hq
            subst this
            exact HIN.out
        · have hs := setTwo HOW.out (.int .i64 vN)
          rcases hj2 with rfl | rfl
          · obtain rfl : ns = [] := List.length_eq_zero_iff.1 k3
            have h1 := hs.1
            simp only [List.nil_append, List.getD_eq_getElem?_getD] at h1 ⊢
            exact (Below.heap_alloc _ _ _ (by simp; omega)).trans h1
          · obtain ⟨m, rfl⟩ := List.length_eq_one_iff.1 k3
            have h1 := hs.2
            simp only [List.cons_append, List.nil_append, List.getD_eq_getElem?_getD] at h1 ⊢
            exact (Below.heap_alloc _ _ _ (by simp; omega)).trans h1
      | error c =>
        have hk2 := sp2 c hev
        have hk3 : (vk == 2) = false := by simp [hk2]
        have hk4 : (vk != 2) = true := by simp [hk2]
        have h1 := hst.2 c hev
        have HE : Hid (fromArgs f (evL evT kids) = .error c) := by rw [h1]; rfl
        have HB5 : Hid (∀ o, Below W.heap.size W (wr.alloc o)) := fun o => hbw.alloc (by omega) o
        clear hst hin hev h1 sp1 sp2 hk2
        go_wp2
        all_goals go_ret2
        all_goals exact ⟨by rw [HE.out]; rfl, HB5.out _⟩
    · have htk : kids.take j = kids := List.take_of_length_le (by omega)
      obtain ⟨k1, k2, k3⟩ := HNS.out
      rw [htk] at k1
      have o0 : wr.cell? ⟨W3.heap.size, 0, none⟩ = some (.int .i64 (ns.getD 0 0)) := by simp [World.cell?, HOW.out]
      have o1 : wr.cell? ⟨W3.heap.size, 1, none⟩ = some (.int .i64 (ns.getD 1 0)) := by simp [World.cell?, HOW.out]
      have i0 := getD_in k2 0
      have i1 := getD_in k2 1
      have hcall := HG.out _ _ wr i0 i1 trivial hbr
      have hgood := HOP.out _ _ i0 i1
      have HE2 : Hid (fromArgs f (evL evT kids) = thrown (f (ns.getD 0 0) (ns.getD 1 0))) := by rw [k1]; rfl
      clear k1 k2 k3 htk i0 i1
      generalize ns.getD 0 0 = p at *
      generalize ns.getD 1 0 = q at *
      cases hfr : f p q with
      | ok m =>
        rw [hfr] at hcall
        simp only [ansV] at hcall
        have HR : Hid (fromArgs f (evL evT kids) = .ok m) := by rw [HE2.out, hfr]; rfl
        clear hgood hfr
        go_wp2_with fail
        refine hcall.mono ?_
        rintro e W5 ⟨rfl, hb5⟩
        have HF : Hid (Below W.heap.size W W5) := hbw.trans (hb5.mono hbw.size)
        clear hcall o0 o1 hb5
        go_wp2
        all_goals go_ret2
        all_goals exact ⟨by rw [HR.out]; rfl, HF.out⟩
      | error sx =>
        rw [hfr] at hcall
        simp only [ansV] at hcall
        obtain ⟨hse, hss⟩ := bad_some (hgood.2 _ hfr)
        have HR : Hid (fromArgs f (evL evT kids) = .error (atomC sx.toList)) := by rw [HE2.out, hfr]; rfl
        clear hgood hfr
        go_wp2_with fail
        refine hcall.mono ?_
        rintro e W5 ⟨rfl, hb5⟩
        have HF : Hid (Below W.heap.size W W5) := hbw.trans (hb5.mono hbw.size)
        clear hcall o0 o1 hb5
        go_wp2
        all_goals go_ret2
        all_goals exact ⟨by rw [HR.out]; rfl, HF.out⟩

theorem atOnce_any {n M : Nat} (s : ByteArray) (b len cap : Nat) (kids : List (Tm n)) (ks : List (Tm M)) (W : World) (hlen : len = kids.length) (hkl : ks.length = len)
    (hbk : b < W.heap.size) (hcell : ∀ i v, ks[i]? = some v → cellsAt W b (i * 4) v.tv) (hnum : ∀ u ∈ kids, numsT u) (hsp : Speaks kids ks) :
    Calls Try.prog 63 #[.string s, .slice (some ⟨b, 0, none⟩) len cap] W fun e W' => e = .returned (atV (compR s.toList len (evL evT kids))) ∧ Below W.heap.size W W' := by
  unfold compR
  cases ho : opOf s.toList len with
  | none => exact atOnce_none s _ len cap ho W
  | some f => exact atOnce_some s b len cap kids ks W f ho hlen hkl hbk hcell hnum hsp
end Go.Proofs.Ytffbhinpmlcopab

